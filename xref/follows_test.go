package xref_test

import (
	"slices"
	"strings"
	"testing"

	"moniker/api"
	"moniker/check"
	"moniker/modules"
	"moniker/scope"
	"moniker/types"
	"moniker/xref"
)

// layered is the first fault of the layers below, one behind the other.
func layered(given []api.File) api.Fault {
	p, f := modules.Load(given)
	if f.Why != api.OK {
		return f
	}
	s, f := scope.Resolve(p)
	if f.Why != api.OK {
		return f
	}
	t, f := types.Make(p, s)
	if f.Why != api.OK {
		return f
	}
	_, f = check.Check(p, s, t)
	return f
}

// TestOpen: 13.1: of faults of several layers that of the lowest, wherever it stands.
func TestOpen(t *testing.T) {
	faults := []struct {
		line string
		why  api.Errno
	}{{"var ' int", api.ErrQuote}, {"var 1 int", api.ErrParse}, {"var a = b", api.ErrUnknown}, {"type c c", api.ErrCycle}, {"var d int = \"\"", api.ErrAssign}, {"func e() { var f int }", api.ErrUnused}}
	for i, low := range faults {
		for _, high := range append(faults[i+1:len(faults):len(faults)], struct {
			line string
			why  api.Errno
		}{"var ok int", api.OK}) {
			for _, lines := range []string{low.line + "\n" + high.line, high.line + "\n" + low.line} {
				text := "package main\n" + lines
				if i > 1 {
					text += "\nfunc main() { }"
				}
				w, f := xref.Open(files("a: " + text))
				if w != nil || f.Why != low.why || f.File != 0 {
					t.Errorf("13.1: %q: %v, not %d", text, f, low.why)
				}
				if at := strings.Index(text, low.line); f.At < at || f.At > at+len(low.line) {
					t.Errorf("13.1: %q: %v", text, f)
				}
				w, f = xref.Open(files("a: package main; func main() { }", "b: "+strings.TrimSuffix(text, "\nfunc main() { }")))
				if w != nil || f.Why != low.why || f.File != 1 {
					t.Errorf("13.1: %q: %v, not %d in file 1", text, f, low.why)
				}
			}
		}
	}
	if w, f := xref.Open(nil); w != nil || f != (api.Fault{Why: api.ErrArg}) {
		t.Errorf("13.1: no files: %v", f)
	}
	if w, f := xref.Open(files("a: package main")); w != nil || f != (api.Fault{Why: api.ErrMain, At: 8}) {
		t.Errorf("13.1: no func main: %v", f)
	}
}

// TestOpenAny: 13.1, P1: programs with one word or byte that is another.
func TestOpenAny(t *testing.T) {
	r := chance(7)
	for range 20 {
		w := opened(t, someFiles(r))
		for range 20 {
			given := otherWord(r, w)
			if r.IntN(2) == 0 {
				f := &given[r.IntN(len(given))]
				k := r.IntN(len(f.Text))
				f.Text = f.Text[:k] + pick(r, "", "\x00", "{", "}", ".", "\"", "\n", "é", "_") + f.Text[k+1:]
			}
			w, f := xref.Open(given)
			if want := layered(given); f != want || (w == nil) != (f.Why != api.OK) {
				t.Fatalf("13.1: %v, not %v: %.1000q", f, want, given)
			}
		}
	}
}

// TestObjects: 13.1: a Whole's objects belong together and are the same ones each time.
func TestObjects(t *testing.T) {
	w := opened(t, mainly("var v int"))
	if w.Program() == nil || w.Program() != w.Program() || w.Scopes() != w.Scopes() || w.Table() != w.Table() || w.Checks() != w.Checks() {
		t.Error("13.1: other objects")
	}
	if w.Scopes().Program() != w.Program() || w.Table().Scopes() != w.Scopes() || w.Checks() == nil || w.Checks().Type(0, 1) != -1 {
		t.Error("13.1: objects of another program")
	}
	if c, f := check.Check(w.Program(), w.Scopes(), w.Table()); c == nil || f != (api.Fault{}) {
		t.Errorf("P6: %v", f)
	}
}

// TestRelation: 13.10.
func TestRelation(t *testing.T) {
	r := chance(8)
	for range 60 {
		w := opened(t, someFiles(r))
		decls := w.Scopes().Decls()
		pairs := map[api.Use]int{}
		for _, u := range w.Uses() {
			pairs[u]++
		}
		count := 0
		for file := range w.Program().Files() {
			for k := range w.Program().Tokens(file) {
				here := api.Place{File: file, Token: k}
				all := w.Decls(here)
				if !slices.IsSorted(all) {
					t.Fatalf("13.2: %v", all)
				}
				for _, d := range all {
					count++
					if pairs[api.Use{At: here, Decl: d}] != 1 || !slices.Contains(w.Where(d), here) || decls[d].Name != w.Program().Word(here) {
						t.Fatalf("13.10: %v binds to %v", here, decls[d])
					}
				}
				if d := w.Scopes().Makes(here); d >= 0 && !slices.Contains(all, d) {
					t.Fatalf("13.10: %v makes %v", here, decls[d])
				}
			}
		}
		where := 0
		for d := range decls {
			where += len(w.Where(d))
		}
		if count != len(pairs) || count != where || count != len(w.Uses()) {
			t.Fatalf("13.10: %d, %d, %d", count, len(pairs), where)
		}
		for _, here := range occurrences(w) {
			if len(w.Decls(here)) == 0 {
				t.Fatalf("13.10: %v binds to nothing", here)
			}
		}
	}
}

// classes are the declarations' classes by 0.11, (a) to (d): of each the number of its class.
func classes(w *xref.Whole) []int {
	decls, table := w.Scopes().Decls(), w.Table()
	out := make([]int, len(decls))
	for d := range out {
		out[d] = d
	}
	tie := func(list []int) {
		for _, d := range list {
			from, to := out[d], out[list[0]]
			for i := range out {
				if out[i] == from {
					out[i] = to
				}
			}
		}
	}
	var all, faces []int
	for d, decl := range decls {
		switch decl.Kind {
		case api.DeclEmbed:
			tie(w.Decls(decl.At))
		case api.DeclType:
			id := table.Named(d)
			all = append(all, id, table.Pointer(id))
			if table.Form(id) == api.NodeInterface {
				faces = append(faces, id)
			}
			for _, name := range append(slices.Clone(pool), "Z", "z") {
				tie(table.Met(id, name))
				tie(table.Every(id, name))
			}
		}
	}
	for _, x := range all {
		for _, i := range faces {
			if !table.Satisfies(x, i) {
				continue
			}
			for _, m := range table.Methods(i) {
				for _, own := range table.Methods(x) {
					if decls[own].Name == decls[m].Name {
						tie([]int{m, own})
					}
				}
			}
		}
	}
	return out
}

// TestFresh: 13.12: a class that is given a fresh name.
func TestFresh(t *testing.T) {
	r := chance(9)
	sizes := map[int]int{}
	for range 50 {
		w := opened(t, someFiles(r))
		class := classes(w)
		for d, decl := range w.Scopes().Decls() {
			if class[d] != d || decl.Kind == api.DeclUniverse || decl.Kind == api.DeclPackage || decl.At.File < 0 || decl.Name == "main" {
				continue
			}
			size := 0
			for _, c := range class {
				if c == d {
					size++
				}
			}
			if size == 1 && r.IntN(12) > 0 {
				continue
			}
			sizes[min(size, 5)]++
			v := opened(t, rewritten(w, func(at api.Place, _ api.Token, old string) string {
				if slices.ContainsFunc(w.Decls(at), func(b int) bool { return class[b] == d }) {
					return "Fresh"
				}
				return old
			}))
			if why, place := xref.Alike(w, v); why != api.OK {
				t.Fatalf("13.12: %s: %d at %v: %.1500q", decl.Name, why, place, v.Program().Files())
			}
			got := v.Satisfied()
			for i := range got {
				got[i][0], got[i][1] = strings.ReplaceAll(got[i][0], ".Fresh", "."+decl.Name), strings.ReplaceAll(got[i][1], ".Fresh", "."+decl.Name)
			}
			slices.SortFunc(got, func(a, b [2]string) int { return slices.Compare(a[:], b[:]) })
			if !slices.Equal(got, w.Satisfied()) {
				t.Fatalf("13.12: %s: satisfied %v: %.1500q", decl.Name, got, v.Program().Files())
			}
		}
	}
	for n := range 5 {
		if sizes[n+1] < 5 {
			t.Errorf("few classes of %d: %v", n+1, sizes)
		}
	}
}

// TestPart: a part of a class alone can't be renamed: bindings, or what is satisfied, are others, or Open refuses.
func TestPart(t *testing.T) {
	w := opened(t, mainly("type I interface { m() }; type T struct { E }; type E struct { }; func (e E) m() { }; func f(x I, y T) { x.m(); y.m() }"))
	for word, numbers := range map[string][]int{"m": {1, 2}, "E": {1, 2}} {
		for _, n := range numbers {
			d := w.Decls(at(t, w, word, n))[0]
			v, f := xref.Open(rewritten(w, func(at api.Place, _ api.Token, old string) string {
				if slices.Contains(w.Decls(at), d) {
					return "Fresh"
				}
				return old
			}))
			if f.Why == api.OK && slices.Equal(w.Satisfied(), v.Satisfied()) {
				t.Errorf("0.11: %s %d stands alone", word, n)
			}
		}
	}
}
