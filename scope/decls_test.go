package scope_test

import (
	"slices"
	"testing"

	"moniker/api"
	"moniker/scope"
)

// TestUniverse: 9.6, and the first declarations of 9.2.
func TestUniverse(t *testing.T) {
	_, s := resolved(t, files("a: package main"))
	l := s.Decls()
	for i, name := range wordUniverse {
		if got := scope.Universe(name); got != i {
			t.Errorf("9.6: %s is %d", name, got)
		}
		if want := (api.Decl{Kind: api.DeclUniverse, Name: name, Pack: -1, Of: -1, At: api.Place{File: -1}}); l[i] != want {
			t.Errorf("9.2: %v, not %v", l[i], want)
		}
	}
	if len(l) != 16 || l[15] != (api.Decl{Kind: api.DeclPackage, Name: "main", Of: -1, At: api.Place{Token: 2}}) {
		t.Errorf("9.2: %v", l[15:])
	}
	for _, name := range []string{"", "_", "main", "init", "cap", "Bool", "bool ", "print\x00", "close", "\xff"} {
		if scope.Universe(name) != -1 {
			t.Errorf("9.6: %q", name)
		}
	}
}

// TestDecls: all declarations of a program with something of each kind, in order, whose they are, what makes them.
func TestDecls(t *testing.T) {
	given := files(
		"b: package main; import \"x\"; import p \"x\"; const c, _ = 1, 2; var v = p.V; type T struct { a, b int; _ int; *U; y.X }; type U T; type _ struct { q int; U }",
		"x/a: package y; var V int; type X interface { m(); n(int); Y }; type Y interface { }",
		"a: package main; import p \"x\"; func main() { L: for i, _ := range 1 { var j, k = 1, 2; j, w := k, i; print(w, j); break L } }; func (r *T) m(s int) { type Z struct { z int } }; func (T) n() { }; func (r int) o() { }; func (r *p.X) q() { }; func (_ v) e() { }; func init() { }; func init() { }; func f(x T) { switch g := x.(type) { case T: g = 1 } }",
	)
	p, s := resolved(t, given)
	l := s.Decls()
	number := func(name string, kind api.DeclKind) int {
		return slices.IndexFunc(l, func(d api.Decl) bool { return d.Name == name && d.Kind == kind })
	}
	typT, typU, typX, typZ := number("T", api.DeclType), number("U", api.DeclType), number("X", api.DeclType), number("Z", api.DeclType)
	at := func(word string, n int) api.Place { return where(p, word, n) }
	none := api.Place{File: -1}
	want := []api.Decl{
		{Kind: api.DeclPackage, Name: "main", Of: -1, At: at("main", 1)}, {Kind: api.DeclImport, Name: "y", Of: -1, At: none}, {Kind: api.DeclImport, Name: "p", Of: -1, At: at("p", 1)}, {Kind: api.DeclConst, Name: "c", Of: -1, At: at("c", 1)}, {Kind: api.DeclVar, Name: "v", Of: -1, At: at("v", 1)},
		{Kind: api.DeclType, Name: "T", Of: -1, At: at("T", 1)}, {Kind: api.DeclField, Name: "a", Of: typT, At: at("a", 1)}, {Kind: api.DeclField, Name: "b", Of: typT, At: at("b", 1)}, {Kind: api.DeclEmbed, Name: "U", Of: typT, At: at("U", 1)}, {Kind: api.DeclEmbed, Name: "X", Of: typT, At: at("X", 1)}, {Kind: api.DeclType, Name: "U", Of: -1, At: at("U", 2)}, {Kind: api.DeclField, Name: "q", Of: -1, At: at("q", 1)}, {Kind: api.DeclEmbed, Name: "U", Of: -1, At: at("U", 3)},
		{Kind: api.DeclPackage, Name: "y", Pack: 1, Of: -1, At: at("y", 2)}, {Kind: api.DeclVar, Name: "V", Pack: 1, Of: -1, At: at("V", 2)}, {Kind: api.DeclType, Name: "X", Pack: 1, Of: -1, At: at("X", 2)}, {Kind: api.DeclShape, Name: "m", Pack: 1, Of: typX, At: at("m", 1)}, {Kind: api.DeclShape, Name: "n", Pack: 1, Of: typX, At: at("n", 1)}, {Kind: api.DeclType, Name: "Y", Pack: 1, Of: -1, At: at("Y", 2)},
		{Kind: api.DeclImport, Name: "p", Of: -1, At: at("p", 3)}, {Kind: api.DeclFunc, Name: "main", Of: -1, At: at("main", 3)}, {Kind: api.DeclLabel, Name: "L", Of: -1, At: at("L", 1)}, {Kind: api.DeclVar, Name: "i", Of: -1, At: at("i", 1)}, {Kind: api.DeclVar, Name: "j", Of: -1, At: at("j", 1)}, {Kind: api.DeclVar, Name: "k", Of: -1, At: at("k", 1)}, {Kind: api.DeclVar, Name: "w", Of: -1, At: at("w", 1)},
		{Kind: api.DeclVar, Name: "r", Of: -1, At: at("r", 1)}, {Kind: api.DeclMethod, Name: "m", Of: typT, At: at("m", 2)}, {Kind: api.DeclVar, Name: "s", Of: -1, At: at("s", 1)}, {Kind: api.DeclType, Name: "Z", Of: -1, At: at("Z", 1)}, {Kind: api.DeclField, Name: "z", Of: typZ, At: at("z", 1)}, {Kind: api.DeclMethod, Name: "n", Of: typT, At: at("n", 2)}, {Kind: api.DeclVar, Name: "r", Of: -1, At: at("r", 2)}, {Kind: api.DeclMethod, Name: "o", Of: -1, At: at("o", 1)}, {Kind: api.DeclVar, Name: "r", Of: -1, At: at("r", 3)}, {Kind: api.DeclMethod, Name: "q", Of: -1, At: at("q", 2)}, {Kind: api.DeclMethod, Name: "e", Of: -1, At: at("e", 1)},
		{Kind: api.DeclFunc, Name: "init", Of: -1, At: at("init", 1)}, {Kind: api.DeclFunc, Name: "init", Of: -1, At: at("init", 2)}, {Kind: api.DeclFunc, Name: "f", Of: -1, At: at("f", 1)}, {Kind: api.DeclVar, Name: "x", Of: -1, At: at("x", 1)}, {Kind: api.DeclVar, Name: "g", Of: -1, At: at("g", 1)},
	}
	for i, d := range l[15:] {
		if i >= len(want) || d != want[i] {
			t.Errorf("9.2: %d: %v, not %v", i, d, want[min(i, len(want)-1)])
		}
		if d.At.File >= 0 && s.Makes(d.At) != i+15 {
			t.Errorf("9.3: %v: %d", d, s.Makes(d.At))
		}
	}
	if len(l) != len(want)+15 || typU < 0 {
		t.Errorf("9.2: %d declarations", len(l))
	}
	if f, label := s.Bound(at("main", 2)), s.Bound(at("L", 2)); f != 15 || label != number("L", api.DeclLabel) || s.Bound(at("g", 2)) != number("g", api.DeclVar) || s.Makes(at("j", 2)) != -1 || s.Bound(at("j", 2)) != number("j", api.DeclVar) || s.Makes(at("main", 2)) != -1 {
		t.Error("9.4: another file's package name, a label, a Match's name, a name that is used", f, label)
	}
}
