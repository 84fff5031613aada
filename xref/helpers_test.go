package xref_test

import (
	"math/rand/v2"
	"slices"
	"strings"
	"testing"

	"moniker/api"
	"moniker/xref"
)

func chance(seed uint64) *rand.Rand { return rand.New(rand.NewPCG(seed, 13)) }

func pick[T any](r *rand.Rand, l ...T) T { return l[r.IntN(len(l))] }

// files are written one a text: the name, ": ", the file's text.
func files(all ...string) []api.File {
	var out []api.File
	for _, s := range all {
		name, text, _ := strings.Cut(s, ": ")
		out = append(out, api.File{Name: name, Text: text})
	}
	return out
}

// mainly is the file a: these lines in a package main, and func main.
func mainly(lines string) []api.File {
	return []api.File{{Name: "a", Text: "package main\n" + lines + "\nfunc main() { }\n"}}
}

// opened is the Whole of files without faults.
func opened(t *testing.T, given []api.File) *xref.Whole {
	t.Helper()
	w, f := xref.Open(given)
	if f != (api.Fault{}) {
		text := given[f.File].Text
		t.Fatalf("13.1: %v at %.60q: %.1500q", f, text[min(len(text), f.At):], given)
	}
	return w
}

// at is the place of the word's occurrence of a number, from 1 on, of all files.
func at(t *testing.T, w *xref.Whole, word string, number int) api.Place {
	t.Helper()
	for file := range w.Program().Files() {
		for k := range w.Program().Tokens(file) {
			here := api.Place{File: file, Token: k}
			if w.Program().Word(here) == word {
				if number--; number == 0 {
					return here
				}
			}
		}
	}
	t.Fatalf("%s is not there so often", word)
	return api.Place{}
}

// told are declarations as text: the type's name and a point, if it is a member; the name.
func told(w *xref.Whole, list []int) string {
	decls := w.Scopes().Decls()
	var out []string
	for _, d := range list {
		s := decls[d].Name
		if of := decls[d].Of; of >= 0 {
			s = decls[of].Name + "." + s
		}
		out = append(out, kindWord[decls[d].Kind]+" "+s)
	}
	return strings.Join(out, ", ")
}

var kindWord = map[api.DeclKind]string{api.DeclUniverse: "universe", api.DeclPackage: "package", api.DeclImport: "import", api.DeclConst: "const", api.DeclType: "type", api.DeclVar: "var", api.DeclFunc: "func", api.DeclField: "field", api.DeclEmbed: "embed", api.DeclMethod: "method", api.DeclShape: "shape", api.DeclLabel: "label"}

// occurrences are the places of all identifiers that are not blank.
func occurrences(w *xref.Whole) []api.Place {
	var out []api.Place
	for file := range w.Program().Files() {
		for k, p := range w.Program().Tokens(file) {
			here := api.Place{File: file, Token: k}
			if p.Kind == api.TokName && w.Program().Word(here) != "_" {
				out = append(out, here)
			}
		}
	}
	return out
}

// rewritten are a program's files with another text in the place of each token; blanks and comments stay.
func rewritten(w *xref.Whole, word func(at api.Place, p api.Token, old string) string) []api.File {
	all := w.Program().Files()
	for i := range all {
		var b strings.Builder
		for k, p := range w.Program().Tokens(i) {
			b.WriteString(word(api.Place{File: i, Token: k}, p, all[i].Text[p.From:p.To]))
		}
		all[i].Text = b.String()
	}
	return all
}

// spoil writes into a list and its spare room.
func spoil[T any](l []T, with T) {
	l = l[:cap(l)]
	for i := range l {
		l[i] = with
	}
}

// story is all that a Whole tells.
type story struct {
	uses      []api.Use
	decls     [][]int
	where     [][]api.Place
	satisfied [][2]string
	outlines  []string
}

func storyOf(w *xref.Whole) story {
	s := story{uses: w.Uses(), satisfied: w.Satisfied()}
	for file := range w.Program().Files() {
		for k := range w.Program().Tokens(file) {
			s.decls = append(s.decls, w.Decls(api.Place{File: file, Token: k}))
		}
		s.outlines = append(s.outlines, w.Outline(file))
	}
	for d := range w.Scopes().Decls() {
		s.where = append(s.where, w.Where(d))
	}
	return s
}

func (s story) same(o story) bool {
	return slices.Equal(s.uses, o.uses) && slices.EqualFunc(s.decls, o.decls, slices.Equal[[]int]) && slices.EqualFunc(s.where, o.where, slices.Equal[[]api.Place]) && slices.Equal(s.satisfied, o.satisfied) && slices.Equal(s.outlines, o.outlines)
}
