package scope_test

import (
	"slices"
	"strings"
	"testing"

	"moniker/api"
	"moniker/modules"
	"moniker/scope"
)

// files are written one a text: the name, ": ", the file's text.
func files(all ...string) []api.File {
	var out []api.File
	for _, s := range all {
		name, text, _ := strings.Cut(s, ": ")
		out = append(out, api.File{Name: name, Text: text})
	}
	return out
}

// alone is one file of package main with these lines, func main behind them if it is not written, and package x beside it if that is imported.
func alone(lines string) []api.File {
	text := "package main\n" + lines + "\n"
	if !strings.Contains(lines, "func main(") {
		text += "func main() { }\n"
	}
	out := []api.File{{Name: "a", Text: text}}
	if strings.Contains(lines, "import") {
		out = append(out, api.File{Name: "x/b", Text: "package x\nfunc F() { }\nfunc init() { }\nvar V, W int; const C = 1; type T struct { m int }\nfunc (t T) G() { }"})
	}
	return out
}

func loaded(t *testing.T, given []api.File) *modules.Program {
	t.Helper()
	p, f := modules.Load(given)
	if f != (api.Fault{}) {
		t.Fatalf("Load(%q): %v", given, f)
	}
	return p
}

func resolved(t *testing.T, given []api.File) (*modules.Program, *scope.Scopes) {
	t.Helper()
	p := loaded(t, given)
	s, f := scope.Resolve(p)
	if s == nil || f != (api.Fault{}) {
		t.Fatalf("9.1: %q: %v", given, f)
	}
	return p, s
}

// where is the place of the token number n, from 1 on, that is spelled so, in all files.
func where(p *modules.Program, word string, n int) api.Place {
	for i := range p.Files() {
		for k := range p.Tokens(i) {
			at := api.Place{File: i, Token: k}
			if p.Word(at) != word {
				continue
			}
			if n--; n == 0 {
				return at
			}
		}
	}
	return api.Place{File: -9}
}

// faultAt is the fault of that kind at a place; the zero Fault of none.
func faultAt(p *modules.Program, why api.Errno, at api.Place) api.Fault {
	if why == api.OK {
		return api.Fault{}
	}
	return api.Fault{Why: why, File: at.File, At: p.Tokens(at.File)[at.Token].From}
}

// wrong is a program and what Resolve tells of it: a fault at the token number n of that spelling.
type wrong struct {
	given []api.File
	why   api.Errno
	word  string
	n     int
}

func refuse(t *testing.T, all []wrong) {
	t.Helper()
	for _, c := range all {
		p := loaded(t, c.given)
		want := faultAt(p, c.why, where(p, c.word, max(c.n, 1)))
		s, f := scope.Resolve(p)
		if f != want || (s == nil) != (c.why != api.OK) {
			t.Errorf("9.1: %q: %v, not %v", c.given, f, want)
		}
		if got := wordsOf(p).first(); got != want {
			t.Errorf("9.1: %q: the words say %v, not %v", c.given, got, want)
		}
	}
}

// names are those of declarations.
func names(l []api.Decl, ds []int) string {
	var out []string
	for _, d := range ds {
		out = append(out, l[d].Name)
	}
	return strings.Join(out, " ")
}

// occurrences are the numbers of a file's identifier tokens that are not blank.
func occurrences(p *modules.Program, file int) []int {
	var out []int
	for k, x := range p.Tokens(file) {
		if x.Kind == api.TokName && p.Word(api.Place{File: file, Token: k}) != "_" {
			out = append(out, k)
		}
	}
	return out
}

// oneOf tells whether a node of a file is the kid of that number of one of the kinds.
func (g wordPage) oneOf(n, place int, kinds ...api.NodeKind) bool {
	return g.up[n] >= 0 && g.place[n] == place && slices.Contains(kinds, g.kind(g.up[n]))
}
