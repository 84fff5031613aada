package ties_test

import (
	"slices"
	"strings"
	"testing"

	"moniker/api"
	"moniker/ties"
	"moniker/xref"
)

// example is the chapter's.
const example = "type S interface { m(); n() }\ntype A struct { k int }\nfunc (a A) m() {}\nfunc (a *A) n() {}\ntype B struct { A; m int }\ntype C struct { *B }\nfunc (c C) k() {}"

// TestExample: the chapter's example, all of it.
func TestExample(t *testing.T) {
	w := opened(t, mainly(example))
	if got := pairs(w, ties.Pairs(w)); got != "S.m-A.m S.n-A.n A-B.A A.k-C.k A.m-B.m B-C.B" {
		t.Errorf("T1: %s", got)
	}
	classes := ties.Classes(w)
	for _, class := range []string{"S.m A.m B.m", "S.n A.n", "A B.A", "A.k C.k", "B C.B", "S", "C", "main", "main#2", "a", "a#2", "c", "int"} {
		names := strings.Fields(class)
		for _, name := range names {
			d := number(t, w, name)
			if got := row(w, ties.Class(w, d)); got != class || classes[d] != number(t, w, names[0]) {
				t.Errorf("T2: the class of %s: %s, not %s", name, got, class)
			}
		}
	}
	for _, want := range []string{"S.m A.m B.m", "B.m A.m S.m", "S.m A.m", "A B.A", "B.A A", "C.k A.k", "C.k", "S"} {
		names := strings.Fields(want)
		if got := row(w, ties.Why(w, number(t, w, names[0]), number(t, w, names[len(names)-1]))); got != want {
			t.Errorf("T3: %s, not %s", got, want)
		}
	}
	if got := ties.Why(w, number(t, w, "S.m"), number(t, w, "S.n")); len(got) > 0 {
		t.Errorf("T3: S.m, S.n: %s", row(w, got))
	}
}

// TestWays: 0.11, (a) to (d), alone and in a row: all pairs of a program.
func TestWays(t *testing.T) {
	for _, c := range []struct{ lines, pairs string }{
		// (a)
		{"type A int; type B struct { A }", "A-B.A"},
		{"type A int; type B struct { *A }", "A-B.A"},
		{"type A interface { }; type B struct { A }", "A-B.A"},
		{"type A interface { }; type B interface { A }", ""},
		{"type A int; type _ struct { A }", "A-_.A"},
		{"type A int; type B struct { f A; g *A; h []A }", ""},
		{"type A int; func f() { type B struct { A }; type A int; type C struct { A } }", "A-B.A A#2-C.A"},
		{"type A int; type B struct { A }; type C struct { B }; type D struct { A }", "A-B.A A-D.A B-C.B"},
		{"type A struct { *A }", "A-A.A"},
		{"type A struct { *B }; type B struct { *A }", "A-B.A A.B-B"},
		// (b): own ones, and of what is embedded: struct types, others with methods, interface types with all their methods
		{"type A struct { m int }; type B struct { A; m int }", "A-B.A A.m-B.m"},
		{"type A struct { m int }; type B struct { A }; func (b *B) m() { }", "A-B.A A.m-B.m"},
		{"type A struct { m int }; type B struct { *A }; type C struct { B; m int }", "A-B.A A.m-C.m B-C.B"},
		{"type A int; func (a A) m() { }; type B struct { A; m int }", "A-B.A A.m-B.m"},
		{"type A interface { m() }; type B struct { A; m int }", "A-B.A A.m-B.m"},
		{"type I interface { m() }; type A interface { I }; type B struct { A; m int }", "I.m-B.m A-B.A"},
		{"type I interface { m() }; type A interface { I; m() }; type B struct { A; m int }", "I.m-A.m I.m-B.m A-B.A A.m-B.m"},
		{"type A struct { m int }; type B struct { m string }; type C struct { A; B }", "A-C.A A.m-B.m B-C.B"},
		{"type A struct { m int }; type B struct { m string }; type C struct { A; *B; m bool }", "A-C.A A.m-B.m A.m-C.m B-C.B B.m-C.m"},
		{"type A struct { m int }; type B struct { A }; type C struct { A }; type D struct { B; C }", "A-B.A A-C.A B-D.B B.A-C.A C-D.C"},
		{"type A struct { m int }; type B struct { a A; m int }", ""},
		{"type A struct { m int }; type _ struct { A; m int }", "A-_.A"},
		{"type A struct { m int }; func f() { type B struct { A; m int } }", "A-B.A A.m-B.m"},
		{"type A struct { *B; m int }; type B struct { *A; m int }", "A-B.A A.B-B A.m-B.m"},
		{"type A struct { *B; m int }; type B struct { *C }; type C struct { *A; m int }", "A-C.A A.B-B A.m-C.m B.C-C"},
		{"type A int; type B struct { A }; type C struct { A int; B }", "A-B.A B-C.B B.A-C.A"},
		{"type A int; type B struct { A }; type C struct { B }; func (c C) A() { }", "A-B.A B-C.B B.A-C.A"},
		{"type m int; type A struct { m }; type I interface { m() }; type B struct { I; A }", "m-A.m A-B.A A.m-I.m I-B.I"},
		// (c)
		{"type I interface { m() }; type A int; func (a A) m() { }", "I.m-A.m"},
		{"type I interface { m() }; type A int; func (a *A) m() { }", "I.m-A.m"},
		{"type I interface { m() }; type A int; func (a A) m() int { return 1 }", ""},
		{"type I interface { m(); n() }; type A int; func (a A) m() { }", ""},
		{"type I interface { m(); n() }; type A int; func (a A) m() { }; func (a *A) n() { }", "I.m-A.m I.n-A.n"},
		{"type I interface { m() }; type A struct { }; func (a *A) m() { }; type B struct { A }; type C struct { *A }", "I.m-A.m A-B.A A-C.A"},
		{"type I interface { m() }; type A struct { m func() }", ""},
		{"type I interface { m() }; type A int; func (a A) m() { }; type B struct { A; m int }", "I.m-A.m A-B.A A.m-B.m"},
		{"type I interface { m() }; type A struct { }; func (a A) m() { }; type B struct { }; func (b B) m() { }; type C struct { A; B }", "I.m-A.m I.m-B.m A-C.A A.m-B.m B-C.B"},
		{"type _ interface { m() }; type A int; func (a A) m() { }", ""},
		{"func f() { type I interface { m() } }; type A int; func (a A) m() { }", "I.m-A.m"},
		{"type I interface { m() }; type J interface { I; n() }; type A int; func (a A) m() { }; func (a A) n() { }", "I.m-A.m J.n-A.n"},
		{"type I interface { m() }; type K interface { n() }; type J interface { I; K }; type A int; func (a A) m() { }", "I.m-A.m"},
		// an embedded interface's method stands in the method set; the first of its name stands for all
		{"type I interface { m() }; type J interface { m(); n() }; type A struct { J }", "I.m-J.m J-A.J"},
		{"type I interface { m() }; type K interface { m(); k() }; type J interface { m(); n(); K }; type A struct { J }", "I.m-K.m I.m-J.m K.m-J.m J-A.J"},
		// (d)
		{"type I interface { m() }; type J interface { m() }", "I.m-J.m"},
		{"type I interface { m() }; type J interface { m(); n() }", "I.m-J.m"},
		{"type I interface { m() }; type J interface { m() int }", ""},
		{"type I interface { m(); k() }; type J interface { m(); n() }", ""},
		{"type I interface { m(); k() }; type J interface { m(); n() }; type L interface { I; J }", "I.m-J.m"},
		{"type I interface { m(); k() }; type J interface { m(); n() }; type _ interface { I; J }", ""},
		{"type I interface { m(); k() }; type J interface { m(); n() }; type L interface { I; J; m() }", "I.m-J.m I.m-L.m J.m-L.m"},
		{"type I interface { m(); k() }; type J interface { I; n() }; type L interface { m(); k(); n() }", "I.m-L.m I.k-L.k J.n-L.n"},
		// I is like J, but what satisfies L has J's method alone
		{"type I interface { m(); k() }; type J interface { m(); k() }; type L interface { m(); n() }; type H interface { J; n() }", "I.m-J.m I.k-J.k J.m-L.m L.n-H.n"},
		{"type J interface { m(); k() }; type I interface { m(); k() }; type L interface { m(); n() }; type H interface { J; n() }", "J.m-I.m J.m-L.m J.k-I.k L.n-H.n"},
		// in a row: I and J by A, which satisfies both
		{"type I interface { m(); k() }; type J interface { m(); n() }; type A int; func (a A) m() { }; func (a A) k() { }; func (a A) n() { }", "I.m-A.m I.k-A.k J.m-A.m J.n-A.n"},
		// (a), (b), (c): the type m, the field that it makes, a method, an interface's method
		{"type m int; type A struct { m }; type B struct { A }; func (b B) m() { }; type I interface { m() }", "m-A.m A-B.A A.m-B.m B.m-I.m"},
	} {
		w := opened(t, mainly(c.lines))
		if got := pairs(w, ties.Pairs(w)); got != c.pairs {
			t.Errorf("T1: %s: %q, not %q", c.lines, got, c.pairs)
		}
		if got, want := pairs(w, ties.Pairs(w)), pairs(w, newModel(w).pairs()); got != want {
			t.Errorf("the model: %s: %q", c.lines, want)
		}
	}
}

// TestPackages: T1 by way of several packages, of unlike numbers than their order.
func TestPackages(t *testing.T) {
	for _, c := range []struct {
		files []string
		pairs string
	}{
		{[]string{"a: package main; import \"x\"; type A struct { x.T }; type T int; type B struct { T }; func main() { }", "x/b: package x; type T struct { }"}, "A.T-x.T T-B.T"},
		{[]string{"a: package main; import \"x\"; import \"y\"; type A struct { x.T; m int }; type B struct { y.U }; func (b B) m() { }; func main() { }", "x/b: package x; import \"y\"; type T struct { *y.U }", "y/c: package y; type U struct { m int }"}, "A.T-x.T A.m-y.U.m B.U-y.U B.m-y.U.m x.T.U-y.U"},
		{[]string{"a: package main; import \"x\"; type I interface { x.J }; type A int; func (a A) m() { }; func main() { }", "x/b: package x; type J interface { m() }"}, "A.m-x.J.m"},
		{[]string{"a: package main; import \"x\"; func main() { x.F() }", "x/b: package x; type A int; func (a A) m() { }; func F() { }", "y/c: package y; type J interface { m() }"}, "x.A.m-y.J.m"},
		{[]string{"a: package main; type J interface { m(T); n() }; type T int; func main() { }", "x/b: package x; type A int; func (a A) m(t T) { }; func (a A) n() { }; type T int; type J interface { m(T) }"}, "x.A.m-x.J.m"},
		{[]string{"a: package main; import p \"x\"; type I interface { p.J; m() }; type A struct { I; p.T }; func main() { }", "x/b: package x; type J interface { k() }; type T int; func (t T) m() { }"}, "I-A.I I.m-x.T.m A.T-x.T"},
	} {
		w := opened(t, files(c.files...))
		if got := pairs(w, ties.Pairs(w)); got != c.pairs {
			t.Errorf("T1: %q: %q, not %q", c.files, got, c.pairs)
		}
	}
}

// TestWhy: T3: of several shortest rows the least; a longer one with lesser numbers does not count.
func TestWhy(t *testing.T) {
	for _, c := range []struct{ lines, from, to, row string }{
		// both interfaces lead from A to B
		{"type I interface { m() }; type J interface { m() }; type A int; func (a A) m() { }; type B int; func (b B) m() { }", "A.m", "B.m", "A.m I.m B.m"},
		{"type A int; func (a A) m() { }; type B int; func (b B) m() { }; type J interface { m() }; type I interface { m() }", "B.m", "A.m", "B.m J.m A.m"},
		// I is no way: A has no k
		{"type I interface { m(); k() }; type J interface { m() }; type A int; func (a A) m() { }; type B int; func (b B) m() { }", "A.m", "B.m", "A.m J.m B.m"},
		// the second step decides: K leads on by L, J by M, and I nowhere
		{"type I interface { m(); i() }; type A int; func (a A) m() { }; func (a A) i() { }; func (a A) j() { }; func (a A) k() { }; type J interface { m(); j() }; type K interface { m(); k() }; type L int; func (l L) m() { }; func (l L) k() { }; func (l L) b() { }; type M int; func (m M) m() { }; func (m M) j() { }; func (m M) b() { }; type B interface { m(); b() }", "A.m", "B.m", "A.m J.m M.m B.m"},
		{"type I interface { m(); k() }; type J interface { m(); k() }; type L interface { m(); n() }; type H interface { J; n() }", "I.m", "L.m", "I.m J.m L.m"},
		{"type A int; type B struct { A }; type C struct { A }; type D struct { B; C }", "B.A", "C.A", "B.A C.A"},
		{"type A int; type B struct { A }; type C struct { A }", "C.A", "B.A", "C.A A B.A"},
		{"type A int; type B struct { A }; type C struct { A }", "B.A", "B", ""},
		{"type A int; type B struct { A }", "A", "B", ""},
		{"type m int; func f() { m := 1; _ = m }", "m", "m#2", ""},
	} {
		w := opened(t, mainly(c.lines))
		if got := row(w, ties.Why(w, number(t, w, c.from), number(t, w, c.to))); got != c.row {
			t.Errorf("T3: %s: %q, not %q", c.lines, got, c.row)
		}
	}
}

// TestTarget: T4.
func TestTarget(t *testing.T) {
	lines := "import \"x\"; import p \"y\"; type I interface { J; m() }; type J interface { m() }; type A struct { x.T; f int; B }; type B struct { k string }; var v = A{f: 1, B: B{k: \"\"}}; const c = iota; func f(i I) { i.m(); v.f, v.B = len(v.B.k), B{}; L: for { break L }; switch s := i.(type) { case nil: _ = s; case J: s.m() }; main(); p.F(x.C, nil, true) }; func init() { f(nil) }; func init() { print(c) }"
	w := opened(t, append(mainly(strings.ReplaceAll(lines, "; ", "\n")), files("x/b: package x; type T int; const C = 1", "y/c: package y; func F(a int, b []int, c bool) { }")...))
	for _, c := range []struct {
		word   string
		number int
		want   string // what is told of the target; "": ErrTarget
	}{
		{"main", 1, ""}, {"main", 2, ""}, {"main", 3, ""}, {"init", 1, ""}, {"init", 2, ""},
		{"p", 1, ""}, {"p", 2, ""}, {"x", 1, ""}, {"x", 2, ""}, {"x", 3, ""}, {"y", 1, ""},
		{"int", 1, ""}, {"string", 1, ""}, {"iota", 1, ""}, {"len", 1, ""}, {"nil", 1, ""}, {"nil", 2, ""}, {"true", 1, ""}, {"print", 1, ""}, {"bool", 1, ""},
		{"I", 1, "I"}, {"I", 2, "I"}, {"J", 1, "J"}, {"J", 2, "J"}, {"J", 3, "J"},
		{"m", 1, "I.m"}, {"m", 2, "J.m"}, {"m", 3, "I.m"}, {"m", 4, "J.m"},
		{"T", 1, "A.T"}, {"T", 2, "x.T"}, {"B", 1, "A.B"}, {"B", 2, "B"}, {"B", 3, "A.B"}, {"B", 4, "B"}, {"B", 5, "A.B"},
		{"f", 1, "A.f"}, {"f", 2, "A.f"}, {"f", 3, "f"}, {"f", 4, "A.f"}, {"f", 5, "f"}, {"k", 1, "B.k"}, {"k", 2, "B.k"},
		{"v", 1, "v"}, {"v", 3, "v"}, {"c", 1, "c"}, {"c", 2, "c"}, {"c", 3, "y.c"}, {"i", 1, "i"}, {"L", 1, "L"}, {"L", 2, "L"},
		{"s", 1, "s"}, {"s", 2, "s"}, {"s", 3, "s"}, {"F", 1, "y.F"}, {"F", 2, "y.F"}, {"C", 1, "x.C"},
	} {
		got, e := ties.Target(w, at(t, w, c.word, c.number))
		if c.want == "" {
			if got != -1 || e != api.ErrTarget {
				t.Errorf("T4: %s %d: %d, %d", c.word, c.number, got, e)
			}
			continue
		}
		if e != api.OK || told(w)[max(got, 0)] != c.want {
			t.Errorf("T4: %s %d: %d, %d, not %s", c.word, c.number, got, e, c.want)
		}
	}
	for _, place := range []api.Place{{}, {Token: 1}, {File: 1, Token: 3}, {File: -1, Token: 2}, {File: 3, Token: 2}, {Token: -1}, {Token: 1 << 30}} {
		if got, e := ties.Target(w, place); got != -1 || e != api.ErrNowhere {
			t.Errorf("T4: %v: %d, %d", place, got, e)
		}
	}
	blank := at(t, w, "_", 1)
	if got, e := ties.Target(w, blank); got != -1 || e != api.ErrNowhere {
		t.Errorf("T4: blank: %d, %d", got, e)
	}
	for _, place := range []api.Place{{}, {Token: 2}, blank, {File: -9}} {
		if got, e := ties.Target(nil, place); got != -1 || e != api.ErrArg {
			t.Errorf("T4: nil at %v: %d, %d", place, got, e)
		}
	}
}

// TestSpecial: a program has no variable, member or label named main or init: so by their names main and init are told from all that may be a target. A package's name is free.
func TestSpecial(t *testing.T) {
	for _, line := range []string{"var main int", "type init int", "type A struct { main int }", "type A int; func (a A) main() { }", "type A interface { init() }", "func f(init int) { }", "func f() { main := 1; _ = main }", "func f() { main: for { break main } }"} {
		if w, f := xref.Open(mainly(line)); w != nil || f.Why != api.ErrSpecial && f.Why != api.ErrTwice {
			t.Errorf("0.5: %s: %v", line, f)
		}
	}
	w := opened(t, files("a: package main; import p \"init\"; func main() { p.F() }", "init/b: package init; func F() { }"))
	for _, n := range []int{1, 2} {
		if _, e := ties.Target(w, at(t, w, "p", n)); e != api.ErrTarget {
			t.Errorf("T4: p: %d", e)
		}
	}
	if _, e := ties.Target(w, at(t, w, "init", 1)); e != api.ErrTarget {
		t.Errorf("T4: package init: %d", e)
	}
}

// TestUniverse: names of the universe that a program declares are targets; the universe's own are not.
func TestUniverse(t *testing.T) {
	w := opened(t, mainly("type int string; type A struct { int; bool }; type bool interface { len(string) }; func f(nil int, print bool) string { print.len(string(nil)); return string(nil) }"))
	for _, c := range []struct {
		word   string
		number int
		want   api.Errno
	}{{"int", 1, api.OK}, {"int", 2, api.OK}, {"int", 3, api.OK}, {"bool", 1, api.OK}, {"bool", 2, api.OK}, {"len", 1, api.OK}, {"len", 2, api.OK}, {"nil", 1, api.OK}, {"nil", 2, api.OK}, {"print", 2, api.OK}, {"string", 1, api.ErrTarget}, {"string", 2, api.ErrTarget}, {"string", 4, api.ErrTarget}} {
		if _, e := ties.Target(w, at(t, w, c.word, c.number)); e != c.want {
			t.Errorf("T4: %s %d: %d, not %d", c.word, c.number, e, c.want)
		}
	}
	if got := pairs(w, ties.Pairs(w)); got != "int#2-A.int A.bool-bool#2" {
		t.Errorf("T1: %s", got)
	}
	for d := range 15 {
		if got := ties.Class(w, d); !slices.Equal(got, []int{d}) {
			t.Errorf("T2: %d: %v", d, got)
		}
	}
}
