package rename_test

import (
	"fmt"
	"strings"
	"testing"

	"moniker/api"
	"moniker/rename"
	"moniker/xref"
)

// TestFresh: R5: the first of x0, x1, .. that no identifier is, of whatever kind, in whatever file.
func TestFresh(t *testing.T) {
	for _, c := range []struct {
		want  string
		files []string
	}{
		{"x0", []string{"a: package main; func main() { }"}},
		{"x0", []string{"a: package main; var x1, x00, X0, x, x_0, ax0, x01, x٠ int; func main() { }"}},
		{"x0", []string{"a: package main; /* x0 */ var v = \"x0\" + `x0`; func main() { } // x0"}},
		{"x1", []string{"a: package main; var x0 int; func main() { }"}},
		{"x2", []string{"a: package main; var x0 = 1; func main() { x1 := x0; _ = x1 }"}},
		{"x1", []string{"a: package main; var x2, x0 int; func main() { }"}},
		{"x1", []string{"a: package main; type x0 int; func main() { }"}},
		{"x1", []string{"a: package main; const x0 = 1; func main() { }"}},
		{"x1", []string{"a: package main; func x0() { }; func main() { }"}},
		{"x1", []string{"a: package main; func f(x0 int) { }; func main() { }"}},
		{"x1", []string{"a: package main; type T struct { x0 int }; func main() { }"}},
		{"x1", []string{"a: package main; type T int; func (x0 T) m() { }; func main() { }"}},
		{"x1", []string{"a: package main; type T int; func (T) x0() { }; func main() { }"}},
		{"x1", []string{"a: package main; type T interface { x0() }; func main() { }"}},
		{"x1", []string{"a: package main; func main() { x0: for { break x0 } }"}},
		{"x1", []string{"a: package main; func main() { }", "x/b: package x; var x0 int"}},
		{"x1", []string{"a: package main; func main() { }", "x/b: package x0"}},
		{"x1", []string{"a: package main; import x0 \"x\"; var v = x0.C; func main() { }", "x/b: package x; const C = 1"}},
		{"x0", []string{"x0/x0: package main; func main() { }", "x1/b: package y"}},
		{"x8", []string{"a: package main; var x0, x1, x2 int; func main() { x3: for { break x3 } }", "b: package main; type x4 struct { x5, x6 int }", "x/b: package x7"}},
	} {
		if got, f := rename.Fresh(files(c.files...)); got != c.want || f != (api.Fault{}) {
			t.Errorf("R5: %q: %s, %v, not %s", c.files, got, f, c.want)
		}
	}
	var all []string
	for n := range 1200 {
		all = append(all, fmt.Sprint("x", n))
	}
	if got, _ := rename.Fresh(files("a: package main; var " + strings.Join(all, ", ") + " int; func main() { }")); got != "x1200" {
		t.Errorf("R5: %s, not x1200", got)
	}
}

// TestFreshFaults: R5, P2: the fault that xref.Open tells, and no name.
func TestFreshFaults(t *testing.T) {
	for _, given := range [][]api.File{nil, {}, files("a: "), files("a: package main"), files("a: package x"), files("a: package main; func main() { x := 1 }"), files("a: \xff"), files("a: package main; func main() { }", "b: package main; \""), files("a: package main; func main() { }", "a: package main"), make([]api.File, api.MaxFiles+1)} {
		_, want := xref.Open(given)
		if got, f := rename.Fresh(given); got != "" || f != want || f.Why == api.OK {
			t.Errorf("R5: %.200q: %s, %v, not %v", given, got, f, want)
		}
	}
}

// TestFreshTaken: P14, R5: at every byte within an identifier that is bound to a declaration of its own, every fresh name is accepted; at every other it is refused.
func TestFreshTaken(t *testing.T) {
	t.Parallel()
	r := chance(7)
	for i := range 12 {
		given := someFiles(r, 2+r.IntN(5))
		switch i % 4 {
		case 1:
			given = someFaces(r)
		case 2:
			given = someWhole(r)
		}
		w := opened(t, given)
		first, f := rename.Fresh(given)
		if f.Why != api.OK {
			t.Fatal(f)
		}
		for _, at := range occurrences(w) {
			want := api.OK
			for _, d := range w.Decls(at) {
				decl := w.Scopes().Decls()[d]
				if decl.At.File < 0 || decl.Kind == api.DeclPackage || decl.Kind == api.DeclImport || decl.Name == "main" || decl.Name == "init" {
					want = api.ErrTarget
				}
			}
			p, _ := w.Program().Token(at)
			offset := p.From + r.IntN(p.To-p.From)
			name := pick(r, first, "Fresh", "__", "é日", strings.Repeat("n", api.MaxName), "x9999")
			if _, e := rename.Rename(given, at.File, offset, name); e != want {
				t.Fatalf("P14: %d, %d to %s: %d, not %d: %.5000q", at.File, offset, name, e, want, given)
			}
			if r.IntN(40) == 0 {
				asks(t, r, given, at.File, offset, name)
			}
		}
	}
}
