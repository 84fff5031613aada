package check_test

import (
	"slices"
	"strings"
	"testing"

	"moniker/api"
	"moniker/check"
	"moniker/modules"
	"moniker/scope"
	"moniker/types"
)

// files are written one a text: the name, ": ", the file's text.
func files(all ...string) []api.File {
	var out []api.File
	for _, s := range all {
		name, text, _ := strings.Cut(s, ": ")
		out = append(out, api.File{Name: name, Text: text})
	}
	return out
}

// program is what the layers up to this one know of files; its Checks are nil where the program has a fault.
type program struct {
	*check.Checks
	p     *modules.Program
	s     *scope.Scopes
	t     *types.Table
	decls []api.Decl
}

// opened checks files that the layers below take.
func opened(t *testing.T, given []api.File) (program, api.Fault) {
	t.Helper()
	p, f := modules.Load(given)
	if f != (api.Fault{}) {
		t.Fatalf("Load(%.300q): %v", given, f)
	}
	s, f := scope.Resolve(p)
	if f != (api.Fault{}) {
		t.Fatalf("Resolve(%.300q): %v", given, f)
	}
	x, f := types.Make(p, s)
	if f != (api.Fault{}) {
		t.Fatalf("Make(%.300q): %v", given, f)
	}
	c, f := check.Check(p, s, x)
	if (c == nil) != (f != api.Fault{}) {
		t.Fatalf("12.2: %.300q: %v with %v", given, c, f)
	}
	return program{c, p, s, x, s.Decls()}, f
}

// checked are the checks of files without faults.
func checked(t *testing.T, given []api.File) program {
	t.Helper()
	x, f := opened(t, given)
	if f != (api.Fault{}) {
		text := given[f.File].Text
		t.Fatalf("12.2: %v: %.300q", f, text[max(0, f.At-100):])
	}
	return x
}

// head is what stands in the file of a wrong one's statements.
const head = `package main
import "x"
type T int
type B bool
type U string
type S struct { a int }
type E struct { S; b T; _ int; p *S }
type I interface { m() }
type J interface { I; n() int }
type Any interface { }
type L []int
type M map[string]S
type F func(int) string
type P *S
func (e *E) m() { }
func (s S) v() int { return s.a }
func (t T) m() { }
func (t T) n() int { return 1 }
func none() { }
func one() int { return 1 }
func two() (int, int) { return 1, 2 }
func mixed() (int, string) { return 1, "a" }
func take(a, b int) { }
func text(s string) string { return s }
const K = 3
const KT T = 4
var ( i, j int; str string; yes bool; t T; by B; u U; s S; e E; face I; wide J; any Any; l []int; ll L; m map[string]int; ms M; f F; p *S; pp P; pi *int; lt []T )
var _ = x.C
`

// beside is the package that head imports.
const beside = "package x; const C = 1; const Big T = 2; type T int; type S struct { A int }; var V S; func F(a int) T { return T(a) }; func (s *S) G() { }"

// wrong is what Check tells of statements of func main: a fault of that kind at the byte where the @ stands, which is no part of them; with OK none.
type wrong struct {
	lines string
	why   api.Errno
}

func refuse(t *testing.T, all []wrong) {
	t.Helper()
	for _, c := range all {
		refuseFiles(t, files("a: "+head+"func main() {\n"+c.lines+"\n}\n", "x/b: "+beside), c.why)
	}
}

// refuseAll is refuse for declarations of a package main that has nothing else but main.
func refuseAll(t *testing.T, all []wrong) {
	t.Helper()
	for _, c := range all {
		text := "package main; " + c.lines
		if !strings.Contains(text, "func main(") {
			text += "\nfunc main() { }"
		}
		refuseFiles(t, files("a: "+text), c.why)
	}
}

// refuseFiles asks Check of files of which one has the @.
func refuseFiles(t *testing.T, given []api.File, why api.Errno) {
	t.Helper()
	want := api.Fault{Why: why}
	for i, f := range given {
		if at := strings.Index(f.Text, "@"); at >= 0 {
			want.File, want.At = i, at
			given[i].Text = f.Text[:at] + f.Text[at+1:]
		}
	}
	if _, f := opened(t, given); f != want {
		told := ""
		if f.Why != api.OK {
			told = given[f.File].Text[f.At:]
		}
		text := given[want.File].Text
		t.Errorf("12.3, 12.4: %.300s: %v at %.20q, not %v", strings.TrimPrefix(text, head), f, told, want)
	}
}

// nodes are those of a file whose text is s.
func (x program) nodes(file int, s string) []int {
	var out []int
	text, l := x.p.Files()[file].Text, x.p.Tokens(file)
	for n, k := range x.p.Tree(file).Nodes {
		if k.End > k.First && k.Kind != api.NodeList && text[l[k.First].From:l[k.End-1].To] == s {
			out = append(out, n)
		}
	}
	return out
}

// names are those of declarations, each with that of the type whose member it is.
func (x program) names(decls []int) string {
	var out []string
	for _, d := range decls {
		name := x.decls[d].Name
		if of := x.decls[d].Of; of >= 0 {
			name = x.decls[of].Name + "." + name
		}
		out = append(out, name)
	}
	return strings.Join(out, " ")
}

// where is the place of the token number n, from 1 on, that is spelled so.
func (x program) where(word string, n int) api.Place {
	for i := range x.p.Files() {
		for k := range x.p.Tokens(i) {
			at := api.Place{File: i, Token: k}
			if x.p.Word(at) == word {
				if n--; n == 0 {
					return at
				}
			}
		}
	}
	return api.Place{File: -1}
}

// starts is Start as words.
func (x program) starts() string {
	var out []string
	for _, at := range x.Start() {
		out = append(out, x.p.Word(at))
	}
	return strings.Join(out, " ")
}

var _ = slices.Sort[[]int]
