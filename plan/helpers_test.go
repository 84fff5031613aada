package plan_test

import (
	"math/rand/v2"
	"slices"
	"strings"
	"testing"

	"moniker/api"
	"moniker/xref"
)

func chance(seed uint64) *rand.Rand { return rand.New(rand.NewPCG(seed, 16)) }

func pick[T any](r *rand.Rand, l ...T) T { return l[r.IntN(len(l))] }

// files are written one a text: the name, ": ", the file's text.
func files(all ...string) []api.File {
	var out []api.File
	for _, s := range all {
		name, text, _ := strings.Cut(s, ": ")
		out = append(out, api.File{Name: name, Text: text})
	}
	return out
}

// mainly is the file a: these lines in a package main, and func main.
func mainly(lines string) []api.File {
	return []api.File{{Name: "a", Text: "package main\n" + lines + "\nfunc main() { }\n"}}
}

// opened is the Whole of files without faults.
func opened(t *testing.T, given []api.File) *xref.Whole {
	t.Helper()
	w, f := xref.Open(given)
	if f != (api.Fault{}) {
		text := given[f.File].Text
		t.Fatalf("%v at %.60q: %.1500q", f, text[min(len(text), f.At):], given)
	}
	return w
}

// at is the place of the word's occurrence of a number, from 1 on, of all files.
func at(t *testing.T, w *xref.Whole, word string, number int) api.Place {
	t.Helper()
	for file := range w.Program().Files() {
		for k := range w.Program().Tokens(file) {
			here := api.Place{File: file, Token: k}
			if w.Program().Word(here) == word {
				if number--; number == 0 {
					return here
				}
			}
		}
	}
	t.Fatalf("%s is not there so often", word)
	return api.Place{}
}

// decl is what the word's occurrence of a number binds to, the least of it.
func decl(t *testing.T, w *xref.Whole, word string, number int) int {
	t.Helper()
	return w.Decls(at(t, w, word, number))[0]
}

// occurrences are the places of all identifiers that are not blank.
func occurrences(w *xref.Whole) []api.Place {
	var out []api.Place
	for file := range w.Program().Files() {
		for k, p := range w.Program().Tokens(file) {
			here := api.Place{File: file, Token: k}
			if p.Kind == api.TokName && w.Program().Word(here) != "_" {
				out = append(out, here)
			}
		}
	}
	return out
}

// rewritten are a program's files with another text in the place of each piece.
func rewritten(w *xref.Whole, word func(at api.Place, p api.Token, old string) string) []api.File {
	all := w.Program().Files()
	for i := range all {
		var b strings.Builder
		for k, p := range w.Program().Tokens(i) {
			b.WriteString(word(api.Place{File: i, Token: k}, p, all[i].Text[p.From:p.To]))
		}
		all[i].Text = b.String()
	}
	return all
}

// marked are the files with a @ ahead of each of some places' tokens; a clash's number is not told.
func marked(w *xref.Whole, places []api.Place) []string {
	var out []string
	for _, f := range rewritten(w, func(at api.Place, _ api.Token, old string) string {
		return strings.Repeat("@", len(slices.DeleteFunc(slices.Clone(places), func(p api.Place) bool { return p != at }))) + old
	}) {
		out = append(out, f.Text)
	}
	return out
}

// spoil writes into a list and its spare room.
func spoil[T any](l []T, with T) {
	l = l[:cap(l)]
	for i := range l {
		l[i] = with
	}
}

// roomy is a copy of a list with spare room, which holds something, too.
func roomy[T any](l []T, spare T) []T {
	out := append(make([]T, 0, len(l)+3), l...)
	spoil(out[len(out):], spare)
	return out
}
