package rename_test

import (
	"fmt"
	"slices"
	"strings"
	"unicode"
	"unicode/utf8"

	"moniker/api"
	"moniker/lexer"
	"moniker/ties"
	"moniker/xref"
)

// judged is the model: the words of R1 and R2, one by one. The changed tokens, or the refusal.
func judged(given []api.File, file, offset int, name string) ([]api.Place, api.Clash) {
	if file < 0 || file >= len(given) || offset < 0 || offset >= len(given[file].Text) {
		return nil, api.Clash{Why: api.ErrArg, At: nowhere}
	}
	here := nowhere
	if n := holder(given[file].Text, offset); n >= 0 {
		here = api.Place{File: file, Token: n}
	}
	if !isNewName(name) {
		return nil, api.Clash{Why: api.ErrNewName, At: here}
	}
	old, f := xref.Open(given)
	if f.Why != api.OK {
		return nil, api.Clash{Why: f.Why, At: api.Place{File: f.File, Token: holder(given[f.File].Text, f.At)}}
	}
	if !slices.Contains(occurrences(old), here) {
		return nil, api.Clash{Why: api.ErrNowhere, At: here}
	}
	decls := old.Scopes().Decls()
	for _, d := range old.Decls(here) {
		switch decls[d].Kind {
		case api.DeclUniverse, api.DeclPackage, api.DeclImport:
			return nil, api.Clash{Why: api.ErrTarget, At: here}
		}
		if decls[d].Name == "main" || decls[d].Name == "init" { // no other has these names
			return nil, api.Clash{Why: api.ErrTarget, At: here}
		}
	}
	class := closed(ties.Pairs(old), old.Decls(here)[0])
	var changed []api.Place
	for _, at := range occurrences(old) {
		if slices.ContainsFunc(old.Decls(at), func(d int) bool { return slices.Contains(class, d) }) {
			changed = append(changed, at)
		}
	}
	now := rewritten(given, changed, name)
	return changed, compared(old, now, class, here)
}

// compared is what the new files are refused for; none.
func compared(old *xref.Whole, files []api.File, class []int, here api.Place) api.Clash {
	now, f := xref.Open(files)
	if f.Why != api.OK {
		return api.Clash{Why: api.ErrBroken, At: api.Place{File: f.File, Token: holder(files[f.File].Text, f.At)}}
	}
	for file := range files {
		for n := range old.Program().Tokens(file) {
			if at := (api.Place{File: file, Token: n}); !slices.Equal(old.Decls(at), now.Decls(at)) {
				return api.Clash{Why: api.ErrBound, At: at}
			}
		}
	}
	a, b := tellerOf(old), tellerOf(now)
	for file := range files {
		for n, node := range old.Program().Tree(file).Nodes {
			if a.node(file, n) != b.node(file, n) {
				return api.Clash{Why: api.ErrMeaning, At: api.Place{File: file, Token: node.First}}
			}
		}
	}
	if !slices.Equal(satisfied(old), satisfied(now)) {
		return api.Clash{Why: api.ErrMeaning, At: nowhere}
	}
	if !slices.Equal(class, closed(ties.Pairs(now), class[0])) {
		return api.Clash{Why: api.ErrClass, At: here}
	}
	return api.Clash{}
}

// holder is the number of the piece that holds a byte; -1: none.
func holder(text string, at int) int {
	pieces, _ := lexer.Scan(text)
	for n, p := range pieces {
		if p.From <= at && at < p.To {
			return n
		}
	}
	return -1
}

// isNewName: 0.1's words for names, and R1's for new ones.
func isNewName(name string) bool {
	for i, c := range name {
		isLetter := unicode.IsLetter(c) || c == '_'
		if c == utf8.RuneError || !isLetter && (i == 0 || !unicode.IsDigit(c)) {
			return false
		}
	}
	const others = " break case chan const continue default defer else fallthrough for func go goto if import interface map package range return select struct switch type var _ main init "
	return name != "" && len(name) <= 200 && !strings.Contains(others, " "+name+" ")
}

// closed is the least set that has a declaration and is closed under ties.
func closed(pairs [][2]int, decl int) []int {
	out := []int{decl}
	for i := 0; i < len(out); i++ {
		for _, p := range pairs {
			for k := range p {
				if p[k] == out[i] && !slices.Contains(out, p[1-k]) {
					out = append(out, p[1-k])
				}
			}
		}
	}
	slices.Sort(out)
	return out
}

// teller tells types as texts in which declared ones are told by their declarations' numbers.
type teller struct {
	*xref.Whole
	texts map[int]string
}

func tellerOf(w *xref.Whole) teller {
	out := teller{w, map[int]string{}}
	for d := range w.Scopes().Decls() {
		if id := w.Table().Named(d); id >= 0 {
			out.texts[id] = fmt.Sprint("#", d)
		}
	}
	return out
}

// node is a node's types, and its constant.
func (w teller) node(file, node int) string {
	var out strings.Builder
	for _, id := range w.Checks().Types(file, node) {
		out.WriteString(w.shown(id) + "; ")
	}
	if v, ok := w.Checks().Const(file, node); ok {
		out.WriteString(fmt.Sprint(v))
	}
	return out.String()
}

func (w teller) shown(id int) string {
	if _, ok := w.texts[id]; !ok {
		a, b := w.Table().Parts(id)
		out := fmt.Sprint(w.Table().Form(id), "(")
		for _, list := range [][]int{a, b} {
			for _, part := range list {
				out += w.shown(part) + ","
			}
			out += ")"
		}
		w.texts[id] = out
	}
	return w.texts[id]
}

// satisfied are all pairs of what satisfies and what is satisfied, by the numbers of their declarations: a type's own, or its own and half a million more for the * of it.
func satisfied(w *xref.Whole) [][2]int {
	var out [][2]int
	t, decls := w.Table(), w.Scopes().Decls()
	for x, decl := range decls {
		for i, face := range decls {
			if decl.Kind != api.DeclType || face.Kind != api.DeclType {
				continue
			}
			if t.Satisfies(t.Named(x), t.Named(i)) {
				out = append(out, [2]int{x, i})
			}
			if t.Satisfies(t.Pointer(t.Named(x)), t.Named(i)) {
				out = append(out, [2]int{x + 1<<19, i})
			}
		}
	}
	return out
}
