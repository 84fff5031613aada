package ties_test

import (
	"fmt"
	"math/rand/v2"
	"slices"
	"strings"
	"testing"

	"moniker/api"
	"moniker/xref"
)

func chance(seed uint64) *rand.Rand { return rand.New(rand.NewPCG(seed, 15)) }

func pick[T any](r *rand.Rand, l ...T) T { return l[r.IntN(len(l))] }

// files are written one a text: the name, ": ", the file's text.
func files(all ...string) []api.File {
	var out []api.File
	for _, s := range all {
		name, text, _ := strings.Cut(s, ": ")
		out = append(out, api.File{Name: name, Text: text})
	}
	return out
}

// mainly is the file a: these lines in a package main, and func main.
func mainly(lines string) []api.File {
	return []api.File{{Name: "a", Text: "package main\n" + lines + "\nfunc main() { }\n"}}
}

// opened is the Whole of files without faults.
func opened(t *testing.T, given []api.File) *xref.Whole {
	t.Helper()
	w, f := xref.Open(given)
	if f != (api.Fault{}) {
		text := given[f.File].Text
		t.Fatalf("%v at %.60q: %.1500q", f, text[min(len(text), f.At):], given)
	}
	return w
}

// at is the place of the word's occurrence of a number, from 1 on, of all files.
func at(t *testing.T, w *xref.Whole, word string, number int) api.Place {
	t.Helper()
	for file := range w.Program().Files() {
		for k := range w.Program().Tokens(file) {
			here := api.Place{File: file, Token: k}
			if w.Program().Word(here) == word {
				if number--; number == 0 {
					return here
				}
			}
		}
	}
	t.Fatalf("%s is not there so often", word)
	return api.Place{}
}

// occurrences are the places of all identifiers that are not blank.
func occurrences(w *xref.Whole) []api.Place {
	var out []api.Place
	for file := range w.Program().Files() {
		for k, p := range w.Program().Tokens(file) {
			here := api.Place{File: file, Token: k}
			if p.Kind == api.TokName && w.Program().Word(here) != "_" {
				out = append(out, here)
			}
		}
	}
	return out
}

// told is a declaration as text: the path of its package and a point, if that is not ""; the type's name and a point, if it is a member (_ , if the type's name is blank); its name; of several that would be told alike the later ones with a number.
func told(w *xref.Whole) []string {
	var out []string
	decls, packs, count := w.Scopes().Decls(), w.Program().Packs(), map[string]int{}
	for _, d := range decls {
		s := d.Name
		switch {
		case d.Of >= 0:
			s = decls[d.Of].Name + "." + s
		case d.Kind == api.DeclField || d.Kind == api.DeclEmbed || d.Kind == api.DeclMethod || d.Kind == api.DeclShape:
			s = "_." + s
		}
		if d.Pack >= 0 && packs[d.Pack].Path != "" {
			s = packs[d.Pack].Path + "." + s
		}
		if count[s]++; count[s] > 1 {
			s += fmt.Sprint("#", count[s])
		}
		out = append(out, s)
	}
	return out
}

// number is the declaration that is told so.
func number(t *testing.T, w *xref.Whole, s string) int {
	t.Helper()
	d := slices.Index(told(w), s)
	if d < 0 {
		t.Fatalf("no %s among %q", s, told(w))
	}
	return d
}

// row are declarations as text.
func row(w *xref.Whole, list []int) string {
	var out []string
	for _, d := range list {
		out = append(out, told(w)[d])
	}
	return strings.Join(out, " ")
}

// pairs are ties as text, in their order.
func pairs(w *xref.Whole, list [][2]int) string {
	var out []string
	for _, p := range list {
		out = append(out, told(w)[p[0]]+"-"+told(w)[p[1]])
	}
	return strings.Join(out, " ")
}

// rewritten are a program's files with another text in the place of each piece.
func rewritten(w *xref.Whole, word func(at api.Place, p api.Token, old string) string) []api.File {
	all := w.Program().Files()
	for i := range all {
		var b strings.Builder
		for k, p := range w.Program().Tokens(i) {
			b.WriteString(word(api.Place{File: i, Token: k}, p, all[i].Text[p.From:p.To]))
		}
		all[i].Text = b.String()
	}
	return all
}

// spoil writes into a list and its spare room.
func spoil[T any](l []T, with T) {
	l = l[:cap(l)]
	for i := range l {
		l[i] = with
	}
}
