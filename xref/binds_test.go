package xref_test

import (
	"math"
	"slices"
	"testing"

	"moniker/api"
	"moniker/xref"
)

// bound is what the word's occurrence of a number, from 1 on, binds to.
type bound struct {
	word   string
	number int
	want   string
}

func binds(t *testing.T, given []api.File, all []bound) *xref.Whole {
	t.Helper()
	w := opened(t, given)
	for _, c := range all {
		if got := told(w, w.Decls(at(t, w, c.word, c.number))); got != c.want {
			t.Errorf("13.2: %s %d: %s, not %s: %.300q", c.word, c.number, got, c.want, given)
		}
	}
	return w
}

// TestExamples: examples 1 to 4 of the chapter.
func TestExamples(t *testing.T) {
	w := binds(t, mainly("type t struct { a int; u }\ntype u struct { }\nfunc (r u) m() { }\nvar v = t{a: 1}\nfunc f() { v.m(); v.a = 2 }"), []bound{{"a", 1, "field t.a"}, {"a", 2, "field t.a"}, {"a", 3, "field t.a"}, {"u", 1, "embed t.u, type u"}, {"u", 2, "type u"}, {"m", 2, "method u.m"}})
	if l := w.Where(w.Decls(at(t, w, "a", 1))[0]); len(l) != 3 {
		t.Errorf("13.3: %v", l)
	}
	binds(t, mainly("type i interface { j; m() }; type j interface { m() }; func f(x i) { x.m() }"), []bound{{"m", 3, "shape i.m, shape j.m"}, {"m", 1, "shape i.m"}, {"m", 2, "shape j.m"}})
	w = opened(t, files("a: package main; func main() { }"))
	for _, c := range []struct {
		file, offset int
		place        api.Place
		why          api.Errno
	}{{0, 0, api.Place{}, api.ErrNowhere}, {0, 8, api.Place{Token: 2}, api.OK}, {0, 29, api.Place{}, api.ErrArg}, {0, 28, api.Place{}, api.ErrNowhere}, {1, 0, api.Place{}, api.ErrArg}} {
		if p, e := w.At(c.file, c.offset); p != c.place || e != c.why {
			t.Errorf("13.5: At(%d, %d) = %v, %d", c.file, c.offset, p, e)
		}
	}
	w = opened(t, mainly("type e interface { }; type s struct { }"))
	if got, want := w.Satisfied(), [][2]string{{`"".e`, `"".e`}, {`"".s`, `"".e`}, {`*"".e`, `"".e`}, {`*"".s`, `"".e`}}; !slices.Equal(got, want) {
		t.Errorf("13.6: %v", got)
	}
}

// TestEmbeds: the last name of what is embedded binds to the type, and in a struct to the field that it makes.
func TestEmbeds(t *testing.T) {
	binds(t, files("a: package main; import p \"x\"; type T struct { p.E; *F; p.I }; type F struct { }; type J interface { p.I; K }; type K interface { }\nfunc main() { var v T; _ = v.E; _ = v.F; _ = v.E.b; _ = v.b; _ = T{E: p.E{b: 1}, F: nil}; v.m() }", "x/b: package x; type E struct { b int }; type I interface { m() }"), []bound{
		{"p", 1, "import p"}, {"p", 2, "import p"}, {"E", 1, "embed T.E, type E"}, {"F", 1, "embed T.F, type F"}, {"p", 3, "import p"}, {"I", 1, "embed T.I, type I"}, {"F", 2, "type F"}, {"I", 2, "type I"}, {"K", 1, "type K"}, {"K", 2, "type K"}, {"E", 2, "embed T.E"}, {"F", 3, "embed T.F"}, {"E", 3, "embed T.E"}, {"b", 1, "field E.b"}, {"b", 2, "field E.b"}, {"E", 4, "embed T.E"}, {"E", 5, "type E"}, {"b", 3, "field E.b"}, {"F", 4, "embed T.F"}, {"m", 1, "shape I.m"}, {"E", 6, "type E"}, {"b", 4, "field E.b"}, {"m", 2, "shape I.m"},
	})
	binds(t, mainly("type a struct { b }; type b struct { *c }; type c int; func f() { type d struct { a }; type a struct { d }; _ = d{}.b; _ = a{}.c; _ = a{d: d{}} }"), []bound{{"b", 1, "embed a.b, type b"}, {"c", 1, "embed b.c, type c"}, {"d", 1, "type d"}, {"a", 2, "type a, embed d.a"}, {"a", 3, "type a"}, {"d", 2, "type d, embed a.d"}, {"b", 3, "embed a.b"}, {"c", 3, "embed b.c"}, {"d", 4, "embed a.d"}, {"d", 5, "type d"}})
	binds(t, mainly("type _ struct { a; b int }; type a struct { }; type _ interface { c; m() }; type c interface { }"), []bound{{"a", 1, "embed a, type a"}, {"b", 1, "field b"}, {"c", 1, "type c"}, {"m", 1, "shape m"}})
}

// TestKeys: a struct's key is the field, whatever else has its name; every other key is a name like any.
func TestKeys(t *testing.T) {
	binds(t, mainly("type t struct { a, b int }; const a = 1; var b = t{a: a, b: 2}; var m = map[int]int{a: a}; var l = []t{a: t{b: b.a}}"), []bound{
		{"a", 1, "field t.a"}, {"b", 1, "field t.b"}, {"a", 2, "const a"}, {"a", 3, "field t.a"}, {"a", 4, "const a"}, {"b", 2, "var b"}, {"b", 3, "field t.b"}, {"a", 5, "const a"}, {"a", 6, "const a"}, {"a", 7, "const a"}, {"b", 4, "field t.b"}, {"b", 5, "var b"}, {"a", 8, "field t.a"},
	})
	binds(t, mainly("type t struct { len int; u }; type u struct { nil *t }; func f(nil *t) { len := t{len: 1, u: u{nil: nil}}; print(len.len); _ = map[int]bool{len.len: true} }"), []bound{
		{"len", 1, "field t.len"}, {"nil", 1, "field u.nil"}, {"nil", 2, "var nil"}, {"len", 2, "var len"}, {"len", 3, "field t.len"}, {"u", 3, "embed t.u"}, {"u", 4, "type u"}, {"nil", 3, "field u.nil"}, {"nil", 4, "var nil"}, {"len", 4, "var len"}, {"len", 5, "field t.len"}, {"len", 6, "var len"}, {"true", 1, "universe true"}, {"print", 1, "universe print"},
	})
}

// TestSelects: the f of an x.f, through an import and otherwise.
func TestSelects(t *testing.T) {
	binds(t, files("a: package main; import \"x\"; import q \"x/y\"; var v = x.V.a; func main() { print(v, x.F(q.C), q.S.m(x.V), q.S{a: 1}.a); { x := x.V; print(x.a); x.m(); f := x.m; f(); { q := &x; q.a = q.a } } }", "b: package main", "x/c: package x; import \"x/y\"; var V y.S; func F(y int) int { return y }", "x/y/d: package y; type S struct { a int }; func (s S) m() int { return s.a }; const C = 1"), []bound{
		{"x", 1, "import x"}, {"V", 1, "var V"}, {"a", 1, "field S.a"}, {"x", 2, "import x"}, {"F", 1, "func F"}, {"q", 1, "import q"}, {"q", 2, "import q"}, {"C", 1, "const C"}, {"q", 3, "import q"}, {"S", 1, "type S"}, {"m", 1, "method S.m"}, {"x", 3, "import x"}, {"V", 2, "var V"}, {"q", 4, "import q"}, {"S", 2, "type S"}, {"a", 2, "field S.a"}, {"a", 3, "field S.a"}, {"x", 4, "var x"}, {"x", 5, "import x"}, {"x", 6, "var x"}, {"a", 4, "field S.a"}, {"x", 7, "var x"}, {"m", 2, "method S.m"}, {"x", 8, "var x"}, {"m", 3, "method S.m"}, {"q", 5, "var q"}, {"x", 9, "var x"}, {"q", 6, "var q"}, {"a", 5, "field S.a"}, {"main", 1, "package main"}, {"main", 2, "func main"}, {"main", 3, "package main"}, {"x", 10, "package x"}, {"y", 1, "import y"}, {"S", 3, "type S"}, {"y", 2, "var y"}, {"y", 3, "var y"}, {"y", 4, "package y"}, {"int", 1, "universe int"},
	})
}

// TestFaces: a method of an interface type is all that it has of that name, found through a struct too.
func TestFaces(t *testing.T) {
	binds(t, mainly("type i interface { j; m(); k }; type j interface { k; m() }; type k interface { m(); n() }; type l interface { n() }; type s struct { i }; type u struct { *s; l2 }; type l2 struct { }\nfunc f(x i, y j, z k, v l, w s, o *u) { x.m(); y.m(); z.m(); x.n(); v.n(); w.m(); w.n(); o.m(); _ = i.m; _ = s.n; _ = (*u).m; _ = w.i.n; _ = o.l2 }"), []bound{
		{"m", 4, "shape i.m, shape j.m, shape k.m"}, {"m", 5, "shape j.m, shape k.m"}, {"m", 6, "shape k.m"}, {"n", 3, "shape k.n"}, {"n", 4, "shape l.n"}, {"m", 7, "shape i.m, shape j.m, shape k.m"}, {"n", 5, "shape k.n"}, {"m", 8, "shape i.m, shape j.m, shape k.m"}, {"m", 9, "shape i.m, shape j.m, shape k.m"}, {"n", 6, "shape k.n"}, {"m", 10, "shape i.m, shape j.m, shape k.m"}, {"i", 5, "embed s.i"}, {"l2", 3, "embed u.l2"},
	})
}

// TestLocals: variables, labels, a Match's name, functions of special names, names of the universe.
func TestLocals(t *testing.T) {
	w := binds(t, files("a: package main; type I interface { }; func f(x I) { L: for { switch L := x.(type) { case int: print(L); case nil, bool: _ = L; break L; default: func(_ int) { L := L; _ = L }(1) } } }; func init() { f(nil); main() }; func init() { }; func main() { const c, _ = iota, 2; x, _ := c, 3; y, x := x, 4; print(x, y) }"), []bound{
		{"L", 1, "label L"}, {"L", 2, "var L"}, {"L", 3, "var L"}, {"L", 4, "var L"}, {"L", 5, "label L"}, {"L", 6, "var L"}, {"L", 7, "var L"}, {"L", 8, "var L"}, {"init", 1, "func init"}, {"init", 2, "func init"}, {"main", 2, "func main"}, {"main", 3, "func main"}, {"iota", 1, "universe iota"}, {"c", 1, "const c"}, {"c", 2, "const c"}, {"x", 3, "var x"}, {"x", 4, "var x"}, {"x", 5, "var x"}, {"nil", 1, "universe nil"}, {"bool", 1, "universe bool"}, {"f", 2, "func f"},
	})
	if a, b := w.Decls(at(t, w, "L", 2)), w.Decls(at(t, w, "L", 3)); !slices.Equal(a, b) || !slices.Equal(a, w.Decls(at(t, w, "L", 7))) || slices.Equal(a, w.Decls(at(t, w, "L", 6))) {
		t.Errorf("13.2: a Match's name: %v, %v", a, b)
	}
	if a, b := w.Decls(at(t, w, "init", 1)), w.Decls(at(t, w, "init", 2)); slices.Equal(a, b) {
		t.Errorf("13.2: two inits: %v", a)
	}
	if a, b := w.Decls(at(t, w, "x", 3)), w.Decls(at(t, w, "x", 4)); !slices.Equal(a, b) {
		t.Errorf("13.2: a Define's name that is used: %v, %v", a, b)
	}
	for k := range w.Program().Tokens(0) {
		here := api.Place{Token: k}
		if word := w.Program().Word(here); (word == "_" || word == "func" || word == "1" || word == "{") && len(w.Decls(here)) > 0 {
			t.Errorf("13.2: %s binds to %v", word, w.Decls(here))
		}
	}
}

// TestWhere: 13.3, of declarations of all files, of those that no token makes, and of no declaration.
func TestWhere(t *testing.T) {
	w := opened(t, files("a: package main; import \"x\"; func main() { x.F(); x.F() }; type x2 int", "b: package main; func f(a int) { }", "x/c: package x; func F() { }"))
	for d, decl := range w.Scopes().Decls() {
		want := map[string]int{"int": 2, "main": 2, "x": 2, "F": 3, "a": 1, "f": 1, "x2": 1}[decl.Name]
		if decl.Name == "main" && decl.Kind == api.DeclFunc || decl.Name == "x" && decl.Kind == api.DeclPackage {
			want = 1
		}
		got := w.Where(d)
		if len(got) != want {
			t.Errorf("13.3: %s %s: %v", kindWord[decl.Kind], decl.Name, got)
		}
		for i, p := range got {
			if w.Program().Word(p) != decl.Name || i > 0 && (p.File < got[i-1].File || p.File == got[i-1].File && p.Token <= got[i-1].Token) {
				t.Errorf("13.3: %s: %v", decl.Name, got)
			}
		}
	}
	for _, d := range []int{-1, math.MinInt, math.MaxInt, len(w.Scopes().Decls())} {
		if l := w.Where(d); len(l) > 0 {
			t.Errorf("13.3: Where(%d) = %v", d, l)
		}
	}
	for _, p := range []api.Place{{File: -1}, {File: 3}, {Token: -1}, {Token: 1000}, {File: math.MaxInt, Token: math.MaxInt}, {File: math.MinInt, Token: math.MinInt}, {File: 1, Token: math.MaxInt}} {
		if l := w.Decls(p); len(l) > 0 {
			t.Errorf("13.2: Decls(%v) = %v", p, l)
		}
	}
}

// TestAt: 13.5, at every byte of programs by chance, and at places that there are none of.
func TestAt(t *testing.T) {
	r := chance(3)
	given := [][]api.File{files("a: package main; func _(_ int, é, _é2 string) { _, _ = é, _é2 };func main(){}//é", "b: /**/package main")}
	for range 10 {
		given = append(given, someFiles(r))
	}
	for _, g := range given {
		w := opened(t, g)
		for file, f := range g {
			want := make([]int, len(f.Text))
			for k, p := range w.Program().Tokens(file) {
				for b := p.From; b < p.To; b++ {
					want[b] = -1
					if p.Kind == api.TokName && f.Text[p.From:p.To] != "_" {
						want[b] = k
					}
				}
			}
			for b, k := range want {
				p, e := w.At(file, b)
				if k < 0 && (p != (api.Place{}) || e != api.ErrNowhere) || k >= 0 && (p != (api.Place{File: file, Token: k}) || e != api.OK) {
					t.Fatalf("13.5: At(%d, %d) = %v, %d: %.300q", file, b, p, e, f.Text)
				}
			}
			for _, b := range []int{-1, len(f.Text), len(f.Text) + 1, math.MinInt, math.MaxInt} {
				if p, e := w.At(file, b); p != (api.Place{}) || e != api.ErrArg {
					t.Errorf("13.5: At(%d, %d) = %v, %d", file, b, p, e)
				}
			}
		}
		for _, file := range []int{-1, len(g), math.MinInt, math.MaxInt} {
			if p, e := w.At(file, 8); p != (api.Place{}) || e != api.ErrArg {
				t.Errorf("13.5: At(%d, 8) = %v, %d", file, p, e)
			}
		}
	}
}
