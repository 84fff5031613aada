package types_test

import (
	"strings"
	"testing"

	"moniker/types"
)

// TestExampleMembers: examples 3, 4, 5 and 8.
func TestExampleMembers(t *testing.T) {
	x := made(t, "type E struct { }; func (e E) M() { }; func (e *E) N() { }; type T struct { E }; type U struct { *E }")
	for name, want := range map[string][2]string{"E": {"M", "M N"}, "T": {"M", "M N"}, "U": {"M N", "M N"}} {
		id := x.named(name)
		if got, pointed := x.names(x.Methods(id)), x.names(x.Methods(x.Pointer(id))); got != want[0] || pointed != want[1] {
			t.Errorf("10.11: %s has %s, *%s %s", name, got, name, pointed)
		}
	}
	x = made(t, "type A struct { x int }; type B struct { x string }; type T struct { A; B }; type V struct { A; B; x bool }")
	if got := x.look(x.named("T"), "x"); got != "many" || x.owners(x.Met(x.named("T"), "x")...) != "A.x B.x" {
		t.Errorf("10.9: %s", got)
	}
	if got := x.look(x.named("V"), "x"); got != "V.x" || x.owners(x.Met(x.named("V"), "x")...) != "A.x B.x V.x" {
		t.Errorf("10.9: %s", got)
	}
	x = made(t, "type T struct { A; C }; type A struct { X }; type C struct { X }; type X struct { }; func (x X) m() { }")
	if got := x.look(x.named("T"), "m"); got != "many" || x.owners(x.Met(x.named("T"), "m")...) != "X.m" || len(x.Methods(x.named("T"))) != 0 {
		t.Errorf("10.9: %s", got)
	}
	for lines, want := range map[string]string{"type I interface { m() }; type J interface { I; m() }": "I.m", "type J interface { I; m() }; type I interface { m() }": "J.m"} {
		x = made(t, lines)
		if got := x.owners(x.Methods(x.named("J"))...); got != want {
			t.Errorf("10.11: %s, not %s", got, want)
		}
	}
}

// TestLook: what is found, and by which way: hidden and ambiguous members at several depths, types that stand twice, interface types.
func TestLook(t *testing.T) {
	for _, c := range []struct{ lines, name, want, met string }{
		{"type T struct { a int }", "a", "T.a", "T.a"}, {"type T struct { a int }", "b", "none", ""}, {"type T struct { _ int }", "_", "none", ""}, {"type T struct { a int }", "", "none", ""}, {"type T int; func (t T) m() { }", "m", "T.m", ""}, {"type T []int; func (t *T) m() { }", "m", "T.m", ""}, {"type T struct { A }; type A int", "A", "T.A", "T.A"}, {"type T struct { *A }; type A int; func (a A) A() { }", "A", "T.A", "T.A A.A"}, {"type T struct { b int }; func (t T) m() { }", "m", "T.m", "T.m"},
		{"type T struct { A }; type A struct { B }; type B struct { *C }; type C struct { x int }", "x", "C.x by T.A A.B B.C", "C.x"}, {"type T struct { A; x int }; type A struct { x int }", "x", "T.x", "T.x A.x"}, {"type T struct { A; B }; type A struct { C }; type B struct { x int }; type C struct { x int }", "x", "B.x by T.B", "B.x C.x"}, {"type T struct { A; B }; type A struct { C }; type B struct { D }; type C struct { x int }; type D struct { x int }", "x", "many", "C.x D.x"}, {"type T struct { A; B; C }; type A struct { x int }; type B struct { x int }; type C struct { D }; type D struct { x int }", "x", "many", "A.x B.x D.x"}, {"type T struct { A; D }; type A struct { B; C }; type B struct { x int }; type C struct { x int }; type D struct { E }; type E struct { F }; type F struct { x int }", "x", "many", "B.x C.x F.x"},
		{"type T struct { A; C }; type A struct { X }; type C struct { *X }; type X struct { m int }", "m", "many", "X.m"}, {"type T struct { A; C; X }; type A struct { X }; type C struct { X }; type X struct { m int }", "m", "X.m by T.X", "X.m"}, {"type T struct { A; B }; type A struct { C }; type B struct { C }; type C struct { D }; type D struct { m int }", "m", "many", "D.m"}, {"type T struct { A; B }; type A struct { C }; type B struct { C; m int }; type C struct { m int }", "m", "B.m by T.B", "B.m C.m"}, {"type T struct { A; B }; type A struct { C }; type B struct { C }; type C struct { D }; type D struct { }; type E struct { m int }", "m", "none", ""}, {"type T struct { *T; *U }; type U struct { *T; x int }", "x", "U.x by T.U", "U.x"}, {"type T struct { *T }", "T", "T.T", "T.T"}, {"type T struct { *A }; type A struct { *B }; type B struct { *A; x int }", "x", "B.x by T.A A.B", "B.x"}, {"type T struct { *A; *B }; type A struct { *B }; type B struct { *A; x int }", "x", "B.x by T.B", "B.x"},
		{"type T interface { m() }", "m", "T.m", ""}, {"type T interface { J; n() }; type J interface { K }; type K interface { m() }", "m", "K.m", ""}, {"type T interface { n() }", "m", "none", ""}, {"type T struct { I }; type I interface { J }; type J interface { m() }", "m", "J.m by T.I", "J.m"}, {"type T struct { I; J }; type I interface { m() }; type J interface { m() }", "m", "many", "I.m J.m"}, {"type T struct { I; J }; type I interface { J }; type J interface { m() }", "m", "many", "J.m"}, {"type T struct { I }; type J interface { m() }; type I interface { J; m() }", "m", "J.m by T.I", "J.m I.m"}, {"type T struct { A; I }; type A struct { I }; type I interface { m() }", "m", "I.m by T.I", "I.m"}, {"type T struct { A; I }; type A struct { m int }; type I interface { m() }", "m", "many", "A.m I.m"}, {"type T struct { A }; type A []int; func (a A) m() { }", "m", "A.m by T.A", "A.m"}, {"type T struct { a A }; type A struct { x int }", "x", "none", ""}, {"type T *A; type A struct { x int }", "x", "none", ""}, {"type T []A; type A struct { x int }", "x", "none", ""},
		{"type T struct { A; *B }; type A struct { B int }; type B struct { x int }", "B", "T.B", "T.B A.B"}, {"type T struct { A; B }; type A struct { C }; type B struct { D }; type C struct { E }; type D struct { E }; type E struct { x int }", "E", "many", "C.E D.E"},
	} {
		x := made(t, c.lines)
		id := x.named("T")
		if got := x.look(id, c.name); got != c.want {
			t.Errorf("10.9: %s: Look(T, %s) is %s, not %s", c.lines, c.name, got, c.want)
		}
		if got := x.owners(x.Met(id, c.name)...); got != c.met {
			t.Errorf("10.10: %s: Met(T, %s) is %s, not %s", c.lines, c.name, got, c.met)
		}
		for _, other := range []int{x.Pointer(id), x.Slice(id), x.Func([]int{id}, nil), 1} {
			if x.look(other, c.name) != "none" || len(x.Met(other, c.name)) != 0 {
				t.Errorf("10.9, 10.10: %s: in %s", c.lines, x.Show(other))
			}
		}
	}
}

// TestMethods: method sets by value and by pointer, through what is embedded, of interface types.
func TestMethods(t *testing.T) {
	for _, c := range []struct{ lines, want, pointed string }{
		{"type T int; func (t T) b() { }; func (t *T) a() { }", "b", "a b"}, {"type T struct { m int }", "", ""}, {"type T *int", "", ""}, {"type T interface { b(); a() }", "a b", ""}, {"type T struct { *A }; type A struct { B }; type B int; func (b *B) m() { }", "m", "m"}, {"type T struct { A }; type A struct { *B }; type B int; func (b *B) m() { }", "m", "m"}, {"type T struct { A }; type A struct { B }; type B int; func (b *B) m() { }; func (b B) n() { }", "n", "m n"}, {"type T struct { I }; type I interface { m() }", "m", "m"}, {"type T struct { A }; type A struct { I }; type I interface { J }; type J interface { m() }", "m", "m"}, {"type T struct { A; m int }; type A int; func (a A) m() { }; func (a A) n() { }", "n", "n"}, {"type T struct { A; B }; type A int; type B int; func (a A) m() { }; func (b *B) m() { }", "", ""}, {"type T struct { A }; type A int; func (a A) m() { }; func (t *T) m() { }", "", "m"}, {"type T struct { A }; type A int; func (a *A) m() { }; func (t T) m() { }", "m", "m"}, {"type T struct { A }; type A P; type P []int; func (a P) m() { }", "", ""}, {"type T interface { J; Z() }; type J interface { é(); a() }", "Z a é", ""}, {"type T interface { }", "", ""},
	} {
		x := made(t, c.lines)
		id := x.named("T")
		if got, pointed := x.names(x.Methods(id)), x.names(x.Methods(x.Pointer(id))); got != c.want || pointed != c.pointed {
			t.Errorf("10.11: %s: T has %s, *T %s", c.lines, got, pointed)
		}
		for _, other := range []int{x.Pointer(x.Pointer(id)), x.Slice(id), x.Map(1, id), x.Func([]int{id}, nil), 0, 1, 2} {
			if len(x.Methods(other)) != 0 {
				t.Errorf("10.11: %s: %s has methods", c.lines, x.Show(other))
			}
		}
	}
	x := made(t, "type P *T; type T int; func (t T) m() { }; type Q P")
	for _, name := range []string{"P", "Q"} {
		if id := x.named(name); len(x.Methods(id))+len(x.Methods(x.Pointer(id))) != 0 {
			t.Errorf("10.11: %s has methods", name)
		}
	}
}

// TestSatisfies: by name and type, through pointers, by interface types; nothing but interface types is satisfied.
func TestSatisfies(t *testing.T) {
	x := made(t, "type I interface { m(int) string }; type J interface { I; n() }; type E interface { }; type A int; func (A) m(a int) string { }; type B int; func (b *B) m(a int) string { }; func (b B) n() { }; type C int; func (c C) m(a int) (string, int) { }; type D struct { m func(int) string }; type F struct { *B }; type G struct { I; A }; type K interface { m(A) string }; type L interface { m(int) string; n() }; type P *A; type S []int")
	for _, c := range []struct {
		id, to string
		want   bool
	}{
		{"A", "I", true}, {"*A", "I", true}, {"A", "J", false}, {"B", "I", false}, {"*B", "I", true}, {"*B", "J", true}, {"B", "J", false}, {"C", "I", false}, {"*C", "I", false}, {"D", "I", false}, {"F", "J", true}, {"*F", "J", true}, {"G", "I", false}, {"A", "K", false}, {"I", "I", true}, {"J", "I", true}, {"I", "J", false}, {"J", "L", true}, {"L", "J", true}, {"I", "K", false}, {"*I", "I", false}, {"*J", "E", true}, {"P", "I", false}, {"P", "E", true}, {"*P", "E", true}, {"S", "E", true}, {"E", "E", true}, {"E", "I", false}, {"A", "A", false}, {"A", "S", false}, {"D", "D", false}, {"I", "A", false}, {"I", "*I", false}, {"[]A", "E", true}, {"[]A", "I", false},
	} {
		if got := x.Satisfies(x.written(c.id), x.written(c.to)); got != c.want {
			t.Errorf("10.12: Satisfies(%s, %s) = %t", c.id, c.to, got)
		}
	}
	for _, id := range []int{0, 1, 2, x.Func(nil, nil), x.Map(1, 1)} {
		if !x.Satisfies(id, x.named("E")) || x.Satisfies(id, x.named("I")) || x.Satisfies(id, id) {
			t.Errorf("10.12: %s", x.Show(id))
		}
	}
}

// written is the type of a name, or of * or [] of it.
func (x table) written(text string) int {
	switch {
	case strings.HasPrefix(text, "*"):
		return x.Pointer(x.written(text[1:]))
	case strings.HasPrefix(text, "[]"):
		return x.Slice(x.written(text[2:]))
	case text == "int":
		return 1
	}
	return x.named(text)
}

// TestAssignable: 0.6.
func TestAssignable(t *testing.T) {
	x := made(t, "type A int; type B A; type S []A; type R []A; type P *A; type T struct { }; type U struct { }; type I interface { m() }; type J interface { m(); n() }; type E interface { }; func (t *T) m() { }; type W *T; type X []int; type F func(int) A; type M map[int]A")
	for _, c := range []struct {
		id, to string
		want   bool
	}{
		{"int", "int", true}, {"A", "A", true}, {"A", "int", false}, {"int", "A", false}, {"A", "B", false}, {"B", "A", false}, {"S", "[]A", true}, {"[]A", "S", true}, {"S", "R", false}, {"[]A", "[]A", true}, {"[]A", "X", false}, {"[]A", "[]B", false}, {"*A", "P", true}, {"P", "*A", true}, {"*B", "P", false}, {"T", "T", true}, {"T", "U", false}, {"*T", "I", true}, {"T", "I", false}, {"W", "I", false}, {"W", "*T", true}, {"*T", "W", true}, {"J", "I", true}, {"I", "J", false}, {"I", "I", true}, {"I", "T", false}, {"T", "E", true}, {"int", "E", true}, {"[]int", "E", true}, {"E", "int", false}, {"*T", "*U", false}, {"[]I", "[]E", false}, {"*I", "E", true},
	} {
		if got := x.Assignable(x.written(c.id), x.written(c.to)); got != c.want {
			t.Errorf("10.12: Assignable(%s, %s) = %t", c.id, c.to, got)
		}
	}
	f, m := x.Func([]int{1}, []int{x.named("A")}), x.Map(1, x.named("A"))
	if !x.Assignable(f, x.named("F")) || !x.Assignable(x.named("F"), f) || !x.Assignable(m, x.named("M")) || !x.Assignable(x.named("M"), m) || x.Assignable(f, m) || x.Assignable(x.Func([]int{1}, []int{1}), x.named("F")) {
		t.Error("10.12: funcs and maps")
	}
}

// TestEvery: all methods of one name of an interface type.
func TestEvery(t *testing.T) {
	x := made(t, "type J interface { m(); K }; type I interface { J; m(); k() }; type K interface { m(); n() }; type S struct { I; m int }; type A int; func (a A) m() { }")
	for _, c := range []struct{ in, name, want string }{
		{"I", "m", "J.m I.m K.m"}, {"I", "n", "K.n"}, {"I", "k", "I.k"}, {"J", "m", "J.m K.m"}, {"J", "k", ""}, {"K", "m", "K.m"}, {"S", "m", ""}, {"A", "m", ""}, {"I", "", ""}, {"I", "_", ""}, {"I", "J", ""},
	} {
		if got := x.owners(x.Every(x.named(c.in), c.name)...); got != c.want {
			t.Errorf("Every(%s, %s) is %s, not %s", c.in, c.name, got, c.want)
		}
		if len(x.Every(x.Pointer(x.named(c.in)), c.name)) != 0 {
			t.Errorf("Every(*%s, %s) is something", c.in, c.name)
		}
	}
	var none *types.Table
	if len(x.Every(-1, "m")) != 0 || len(x.Every(1, "m")) != 0 || len(none.Every(3, "m")) != 0 {
		t.Error("P7: Every of no interface type")
	}
	l := x.Every(x.named("I"), "m")
	l[0] = 99
	if got := x.owners(x.Every(x.named("I"), "m")...); got != "J.m I.m K.m" {
		t.Errorf("P4: %s", got)
	}
}

// TestMembers: all that can be met from a type, of whatever name.
func TestMembers(t *testing.T) {
	x := made(t, "type J interface { m(); K }; type I interface { J; m(); k() }; type K interface { m(); n() }; type S struct { I; *A; m int; _ string }; type A int; func (a A) m() { }; func (s *S) f() { }; type P *A; type R struct { *R; *Q }; type Q struct { *R; q int }; type E interface { }")
	for _, c := range []struct{ of, want string }{
		{"J", "J.m K.m K.n"}, {"I", "J.m I.m I.k K.m K.n"}, {"K", "K.m K.n"}, {"S", "J.m I.m I.k K.m K.n S.I S.A S.m A.m S.f"}, {"A", "A.m"}, {"P", ""}, {"R", "R.R R.Q Q.R Q.q"}, {"Q", "R.R R.Q Q.R Q.q"}, {"E", ""},
	} {
		id := x.named(c.of)
		for range 2 {
			l := x.Members(id)
			if got := x.owners(l...); got != c.want {
				t.Errorf("Members(%s) is %s, not %s", c.of, got, c.want)
			}
			for i := range l {
				l[i] = 99
			}
		}
		if len(x.Members(x.Pointer(id))) != 0 || len(x.Members(x.Slice(id))) != 0 {
			t.Errorf("Members of *%s or []%s", c.of, c.of)
		}
	}
	var none *types.Table
	if len(x.Members(-1)) != 0 || len(x.Members(1)) != 0 || len(x.Members(1<<40)) != 0 || len(none.Members(3)) != 0 {
		t.Error("P7: Members of no declared type")
	}
}

// TestMethod: the method of a name, of all types that are declared and the * of each: what the method set has of it.
func TestMethod(t *testing.T) {
	x := made(t, "type J interface { m(); K }; type I interface { J; m(); k() }; type K interface { m(); n() }; type S struct { I; *A; a int }; type A int; func (a A) o() { }; func (a *A) p() { }; func (s *S) f() { }; type T struct { S; k, B int }; type B struct { A }; type P *A; type E interface { }; type D struct { A; B }; type V struct { B; *S }")
	count := 0
	for _, of := range []string{"J", "I", "K", "S", "A", "T", "B", "P", "E", "D", "V"} {
		for _, id := range []int{x.named(of), x.Pointer(x.named(of)), x.Pointer(x.Pointer(x.named(of))), x.Slice(x.named(of))} {
			set := x.Methods(id)
			for _, name := range []string{"a", "f", "k", "m", "n", "o", "p", "A", "B", "S", "zz", "", "_"} {
				want := -1
				for _, d := range set {
					if x.decls[d].Name == name {
						want = d
						count++
					}
				}
				if got := x.Method(id, name); got != want {
					t.Errorf("Method(%s, %s) is %d, not %d", x.Show(id), name, got, want)
				}
			}
		}
	}
	if count < 40 {
		t.Errorf("only %d methods", count)
	}
	var none *types.Table
	if x.Method(-1, "m") != -1 || x.Method(1, "m") != -1 || x.Method(1<<40, "m") != -1 || none.Method(3, "m") != -1 {
		t.Error("P7: Method of no declared type")
	}
}
