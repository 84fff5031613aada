package types_test

import (
	"testing"

	"moniker/api"
	"moniker/types"
)

// TestExampleFaults: the faults of the chapter's examples, and those of 10.3 and 0.6.
func TestExampleFaults(t *testing.T) {
	refuse(t, []wrong{
		{"type P struct { }; type Q @P", api.ErrForm}, {"type P struct { }; type R *P", api.OK},
		{"type @A B; type B A", api.ErrCycle}, {"type @S struct { s S }", api.ErrCycle}, {"type S struct { s *S }", api.OK}, {"type S struct { s []S }", api.OK}, {"type @I interface { J }; type J interface { I }", api.ErrCycle}, {"type @I interface { J }; type J I", api.ErrCycle}, {"type @L S; type S struct { f L }", api.ErrCycle},
		{"type S struct { f L }; type L []S", api.OK}, {"type @S struct { f L }; type L S", api.ErrCycle},
		{"type K struct { }; type M map[@K]int", api.ErrKey}, {"type L []int; var v map[@L]int", api.ErrKey}, {"type D string; var v map[D]int", api.OK},
		{"type P *int; func (p @P) m() { }", api.ErrRecv}, {"type P *int; func (p @*P) m() { }", api.ErrRecv}, {"type P *int; type S struct { @P }", api.ErrEmbed}, {"type I interface { m() }; type S struct { I }", api.OK}, {"type I interface { m() }; type S struct { @*I }", api.ErrEmbed}, {"type E struct { }; type I interface { @E }", api.ErrEmbed},
		{"type I interface { m() }; type J interface { I; @m() int }", api.ErrTwice}, {"type I interface { m() }; type J interface { I; m() }", api.OK},
		{"type M map[@A]int; type A P; type P struct { }", api.ErrKey},
	})
	if x, f := types.Make(nil, nil); x != nil || f != (api.Fault{Why: api.ErrArg}) {
		t.Errorf("10.1: of nil: %v", f)
	}
}

// TestCycles: what needs itself, in each of the two ways, and what does not.
func TestCycles(t *testing.T) {
	refuse(t, []wrong{
		{"type @A A", api.ErrCycle}, {"type @A (A)", api.ErrCycle}, {"type @A *A", api.ErrCycle}, {"type @A []A", api.ErrCycle}, {"type @A map[string]A", api.ErrCycle}, {"type @A map[A]int", api.ErrCycle}, {"type @A func(A)", api.ErrCycle}, {"type @A func() (int, A)", api.ErrCycle}, {"type @A func(func(*[]A))", api.ErrCycle}, {"type @A []B; type B *C; type C func(A)", api.ErrCycle}, {"type A []B; type @B B", api.ErrCycle}, {"type @B []C; type A B; type C (B)", api.ErrCycle},
		{"type @S struct { a int; s (S) }", api.ErrCycle}, {"type @S struct { S }", api.ErrCycle}, {"type S struct { *S }", api.OK}, {"type S struct { s map[string]S; f func(S) S; p *S }", api.OK}, {"type @S struct { t T }; type T struct { U }; type U struct { a, b S }", api.ErrCycle}, {"type T struct { s S }; type @S struct { s S }", api.ErrCycle}, {"type T struct { s S }; type S struct { t *T }", api.OK}, {"type @S struct { a A }; type A (S)", api.ErrCycle}, {"type S struct { a A }; type A []S; type B map[string]A", api.OK}, {"type S struct { a A }; type A []B; type B struct { s *S }", api.OK}, {"type S struct { a A }; type A []B; type B []S", api.OK}, {"type S struct { i I }; type I interface { m(S) S }", api.OK}, {"type S struct { I }; type @I interface { J }; type J interface { I }", api.ErrCycle},
		{"type @I interface { I }", api.ErrCycle}, {"type I interface { m(I) }", api.OK}, {"type I interface { m() J }; type J interface { m() I }", api.OK}, {"type I interface { m() A }; type A []I", api.OK},
		{"type _ []A; type _ struct { a A }; type A struct { p *A }", api.OK}, {"func f() { type @T struct { T } }", api.ErrCycle}, {"func f() { type @T []T }", api.ErrCycle}, {"type T int; func f() { type @T struct { t T } }", api.ErrCycle}, {"type T int; func f() { type U struct { t T }; type T struct { u U } }", api.OK}, {"var v = func() { type @t *t }", api.ErrCycle}, {"func f() { type @t struct { a int; b t }; type u u }", api.ErrCycle},
		{"type @A func(A, v); var v int", api.ErrCycle}, {"type A v; var v int; type @B B", api.ErrCycle}, {"var v v; type @A A", api.ErrCycle}, {"type P struct { }; type Q P; type @A A", api.ErrCycle},
	})
}

// TestTypeFaults: a name that has no type in each type's place, and in none.
func TestTypeFaults(t *testing.T) {
	var all []wrong
	for _, lines := range []string{
		"var a @v", "var a, b @v = 1, 2", "const c @v = 1", "func f(a, b @v) { }", "func f(a int, b @v) { }", "func f() @v { }", "func f() (int, @v) { }", "func f() { func(a @v) { }(1) }", "func f() { func() @v { }() }", "func (r @v) m() { }", "func (@v) m() { }", "func (r *@v) m() { }",
		"type T struct { a, b @v }", "type T struct { @v }", "type T struct { *@v }", "type T interface { @v }", "type T interface { m(@v) }", "type T interface { m(int) (int, @v) }", "type T @v", "type T *@v", "type T (@v)", "type T []@v", "type T map[@v]int", "type T map[int]@v", "type T func(@v)", "type T func() @v", "type T func(func() (int, *[]@v))", "type _ @v", "type _ struct { a @v }",
		"func f() { var a @v }", "func f() { type T @v }", "func f() { print(v.(@v)) }", "func f() { print(@v{}) }", "func f() { print([]@v{}) }", "func f() { print(map[@v]int{}) }", "func f() { print([]@v(1), 1) }", "func f() { make([]@v, 1) }", "func f() { make(map[int]@v) }", "func f() { switch v.(type) { case @v: } }", "func f() { switch v.(type) { case int, *@v: } }", "func f() { switch v.(type) { case nil, (@v): } }", "func f() { switch v.(type) { case (@nil): } }", "func f() { switch v.(type) { case *@nil: } }", "func f() { if a := v.(@v); a { } }", "var w = func() @v { }", "var w = []@v{}", "var a @nil", "var a @true", "var a @len", "var a @main; func main() { }", "var a @_", "type T []@_", "func f() { var int int; var a @int }", "func f(int int) { var a @int }",
	} {
		all = append(all, wrong{lines + "\nvar v int", api.ErrType})
	}
	for _, lines := range []string{
		"var a = v(1)", "var a = (v)(1)", "var a = *v", "var a = (*v)(1)", "func f() { v(int) }", "func f() { switch v { case v: } }", "func f() { switch v.(type) { case nil, int, []int: } }", "func f(nil int) { switch v.(type) { case int: } }", "func f() { new(v) }", "var a = T{v: 1, v.x: 2}; type T int", "var a = v.v", "func f() { type nil int; switch v.(type) { case nil, *nil: } }", "var a = bool(int(string(v)))",
	} {
		all = append(all, wrong{lines + "\nvar v int", api.OK})
	}
	refuse(t, append(all, wrong{"func f(nil int) { switch v.(type) { case @nil: } }; var v int", api.ErrType}))
	const other = "x/a: package x; var V int; type T int; func F() { }"
	for _, lines := range []string{"var a x.@V", "var a *x.@F", "type T x.@V", "type T struct { x.@V }", "type T struct { *x.@V }", "type T interface { x.@F }", "func (r x.@V) m() { }", "func (r *x.@V) m() { }", "var a = x.@V{}", "func f() { switch v.(type) { case x.@V: } }", "var a = v.([]x.@V)", "var a v.@T", "var a T.@T; type T int", "type U struct { v.@T }", "type U struct { *v.@x }", "var a x.@_", "var a = v.@T{}", "func f(x int) { var a x.@T }"} {
		refuseFiles(t, files("a: package main; import \"x\"; "+lines+"; var v int", other), api.ErrType)
	}
	for _, lines := range []string{"var a x.T", "type T x.T", "type T struct { *x.T }", "var a = x.V", "var a = x.T(1)", "var a = x.T{}"} {
		refuseFiles(t, files("a: package main; import \"x\"; "+lines+"; var v int", other), api.OK)
	}
}

// TestOtherFaults: ErrForm, ErrKey, ErrEmbed, ErrRecv.
func TestOtherFaults(t *testing.T) {
	refuse(t, []wrong{
		{"type I interface { }; type J @I", api.ErrForm}, {"type P struct { }; type Q @(P)", api.ErrForm}, {"type Q @(P); type P struct { }", api.ErrForm}, {"type R @Q; type Q P; type P struct { }", api.ErrForm}, {"type P struct { }; type _ @P", api.ErrForm}, {"func f() { type P struct { }; type Q @P }", api.ErrForm}, {"type P struct { a @v }; type Q P; var v int", api.ErrType}, {"type Q @P; type P struct { a v }; var v int", api.ErrForm}, {"type P []struct2; type struct2 struct { }; type Q P", api.OK}, {"type A int; type B A; type C (B)", api.OK}, {"type A *S; type B A; type S struct { }", api.OK},
		{"var a map[@[]int]int", api.ErrKey}, {"var a map[@map[int]int]int", api.ErrKey}, {"var a map[@*int]int", api.ErrKey}, {"var a map[@func()]int", api.ErrKey}, {"var a map[@(S)]int; type S struct { }", api.ErrKey}, {"var a map[@I]int; type I interface { }", api.ErrKey}, {"var a map[@P]int; type P *int", api.ErrKey}, {"func f() { print(map[@S]int{}) }; type S struct { }", api.ErrKey}, {"func f(a []map[@S]int) { }; type S struct { }", api.ErrKey}, {"type T func() map[@S]int; type S struct { }", api.ErrKey}, {"var a map[@map[S]int]int; type S struct { }", api.ErrKey}, {"var a map[int]map[@S]int; type S struct { }", api.ErrKey}, {"var a map[B]map[(int)]map[bool]map[string]S; type B A; type A bool; type S struct { }", api.OK}, {"func f() { make(map[@T]int) }; type T []int", api.ErrKey}, {"var a map[[]@v]int; var v int", api.ErrType},
		{"type T struct { @int }", api.ErrEmbed}, {"type T struct { @bool }", api.ErrEmbed}, {"type T interface { @bool }", api.ErrEmbed}, {"type T struct { @*string }", api.ErrEmbed}, {"type T struct { @*P }; type P *int", api.ErrEmbed}, {"type T struct { @Q }; type Q P; type P *int", api.ErrEmbed}, {"type T struct { A; B; C; *D; *E; F; I }; type A int; type B []int; type C map[int]int; type D func(); type E struct { }; type F struct { }; type I interface { }", api.OK}, {"type T interface { @int }", api.ErrEmbed}, {"type T interface { m(); @A }; type A int", api.ErrEmbed}, {"type T interface { @P }; type P *I; type I interface { }", api.ErrEmbed}, {"type T struct { a int; @*I }; type I interface { }", api.ErrEmbed}, {"type _ struct { @int }", api.ErrEmbed}, {"func f() { type T interface { @int } }", api.ErrEmbed}, {"type K interface { @J }; type J I; type I interface { m() }", api.ErrEmbed}, {"type K interface { @J }; type J H; type H I; type I interface { }", api.ErrEmbed}, {"type J @I; type I interface { }; type K interface { J }", api.ErrForm}, {"type T struct { J }; type J @I; type I interface { }", api.ErrForm}, {"type T struct { @*J }; type J I; type I interface { }", api.ErrEmbed},
		{"func (r @int) m() { }", api.ErrRecv}, {"func (r @bool) m() { }", api.ErrRecv}, {"func (@*bool) m() { }", api.ErrRecv}, {"func (r @*int) m() { }", api.ErrRecv}, {"func (r @I) m() { }; type I interface { }", api.ErrRecv}, {"func (r @*I) m() { }; type I interface { }", api.ErrRecv}, {"func (@P) m() { }; type P *int", api.ErrRecv}, {"func (r @Q) m() { }; type Q P; type P *int", api.ErrRecv}, {"func (r T) m() { }; func (r *T) n() { }; func (T) o() { }; func (*T) _() { }; type T []int", api.OK}, {"func (r J) m() { }; type J @I; type I interface { }", api.ErrForm}, {"func (r *J) m() { }; type J @I; type I interface { n() }", api.ErrForm}, {"func (r @J) m() { }; type J P; type P *I; type I interface { }", api.ErrRecv}, {"func (r A) m() { }; func (r *B) m() { }; func (r C) m() { }; func (r D) m() { }; type A int; type B map[int]int; type C func(); type D struct { }", api.OK}, {"func (r @I) _() { }; type I interface { }", api.ErrRecv},
	})
	const other = "x/a: package x; type T int; type P *int; type I interface { m() }; type S struct { a int }"
	for lines, why := range map[string]api.Errno{
		"func (r @x.T) m() { }": api.ErrRecv, "func (r @*x.T) m() { }": api.ErrRecv, "type A @x.S": api.ErrForm, "type A x.T": api.OK, "type A struct { @x.P }": api.ErrEmbed, "type A struct { @*x.I }": api.ErrEmbed, "type A struct { x.I; *x.S; x.T }": api.OK, "type A interface { @x.T }": api.ErrEmbed, "type A interface { x.I }": api.OK, "var a map[@x.S]int": api.ErrKey, "var a map[x.T]int": api.OK, "type A interface { x.I; @m() int }": api.ErrTwice, "type A interface { m() int; @x.I }": api.ErrTwice,
	} {
		refuseFiles(t, files("a: package main; import \"x\"; "+lines, other), why)
	}
}

// TestTwice: own members of one name, and methods of one name that an interface type has by two types.
func TestTwice(t *testing.T) {
	refuse(t, []wrong{
		{"type S struct { a int; @a string }", api.ErrTwice}, {"type S struct { a, b, @a int }", api.ErrTwice}, {"type S struct { _, _ int; _ string }", api.OK}, {"type S struct { T int; @T }; type T int", api.ErrTwice}, {"type S struct { T int; *@T }; type T int", api.ErrTwice}, {"type S struct { T; @T int }; type T int", api.ErrTwice}, {"type S struct { T; *@T }; type T int", api.ErrTwice}, {"type S struct { m int }; func (s S) @m() { }", api.ErrTwice}, {"func (s *S) m() { }; type S struct { a, @m int }", api.ErrTwice}, {"type A int; func (a A) m() { }; func (a *A) @m() { }", api.ErrTwice}, {"type A int; func (a A) _() { }; func (a A) _() { }", api.OK}, {"func (s S) T() { }; type S struct { @T }; type T int", api.ErrTwice}, {"type S struct { a int }; type T struct { a int; S }; func (t T) b() { }; func (s S) b() { }", api.OK}, {"type _ struct { a int; @a int }", api.ErrTwice}, {"func f() { type S struct { a int; @a int } }", api.ErrTwice},
	})
	refuse(t, []wrong{
		{"type I interface { m(); @m() }", api.ErrTwice}, {"type I interface { m(); @m() int }", api.ErrTwice}, {"type I interface { _(); _() int }", api.OK}, {"type J interface { m() int; @I }; type I interface { m() }", api.ErrTwice}, {"type J interface { I; n(); @m() int }; type I interface { m() }", api.ErrTwice}, {"type J interface { A; @B }; type A interface { m() }; type B interface { m(int) }", api.ErrTwice}, {"type J interface { A; B }; type A interface { m(int) string }; type B interface { m(int) (string) }", api.OK}, {"type J interface { A; A; B }; type A interface { B }; type B interface { m() }", api.OK}, {"type K interface { @J }; type J interface { A; B }; type A interface { m() }; type B interface { m() int }", api.ErrTwice}, {"type J interface { A; @B }; type K interface { J }; type A interface { m() }; type B interface { m() int }", api.ErrTwice}, {"type K interface { m(); @J }; type J interface { m() T; I }; type I interface { m() T }; type T int", api.ErrTwice}, {"type _ interface { I; @m() int }; type I interface { m() }", api.ErrTwice}, {"type D interface { @A }; type A interface { m(); m() int }", api.ErrTwice}, {"type D interface { A }; type A interface { m(); @m() }", api.ErrTwice},
		{"type J interface { I; m() A }; type I interface { m() A }; type A int", api.OK}, {"type J interface { I; @m() A }; type I interface { m() int }; type A int", api.ErrTwice}, {"type K interface { J; x() }; type J interface { @E }; type E struct { x int }", api.ErrEmbed}, {"type K interface { J; x() }; type J interface { @E }; type E struct { x int }; type P interface { y() }; type Q interface { y() int }", api.ErrEmbed}, {"type K interface { @J; m() int }; type J I; type I interface { m() }", api.ErrEmbed}, {"type K interface { m() int; @J }; type J I; type I interface { m() }", api.ErrEmbed}, {"type K interface { L; m() int }; type L interface { @J }; type J I; type I interface { m() }", api.ErrEmbed}, {"func (J) m() { }; func (J) @m() { }; type J I; type I interface { }", api.ErrTwice}, {"func (J) m() { }; type J @I; type I interface { m() }", api.ErrForm},
	})
	refuseFiles(t, files("b: package main; func (s S) m() { }", "a: package main; type S struct { @m int }"), api.ErrTwice)
	refuseFiles(t, files("a: package main; type S struct { m int }", "b: package main; func (s S) @m() { }"), api.ErrTwice)
	refuseFiles(t, files("a: package main; type S int", "b: package main; func (s S) m() { }; func (s S) n() { }", "c: package main; func (s *S) n2() { }; func (s *S) @m() { }"), api.ErrTwice)
}

// TestFirstFault: cycles of a package ahead of all else in it, packages in their order, files, places, and at one place the order of 10.1.
func TestFirstFault(t *testing.T) {
	refuse(t, []wrong{
		{"var a map[@[]int]v; var v int", api.ErrKey}, {"var a map[int]@v; var b map[[]int]int; var v int", api.ErrType}, {"type S struct { @int; a v; a int }; var v int", api.ErrEmbed}, {"type S struct { a @v; int; a int }; var v int", api.ErrType}, {"type S struct { a, @a v }; var v int", api.ErrTwice}, {"func (r @I) m(a v) { }; type I interface { }; var v int", api.ErrRecv}, {"type S struct { m int }; func (s S) @m(a v) { }; var v int", api.ErrTwice}, {"type S struct { m int }; func (s @v) m() { }; var v int", api.ErrType},
		{"type S struct { int string; @int }", api.ErrEmbed}, {"type S struct { v string; @v }; var v int", api.ErrType}, {"type S struct { int string; @*int }", api.ErrEmbed}, {"type S struct { int string; *@v; v int }; var v int", api.ErrType}, {"type Q @P; type P struct { a, a int }", api.ErrForm}, {"type T map[@P]Q; type Q P; type P struct { }", api.ErrKey},
	})
	refuseFiles(t, files("a: package main; var a v; var v int", "b: package main; type @A A"), api.ErrCycle)
	refuseFiles(t, files("a: package main; type A []B; var a v; var v int", "b: package main; type @C C; type B int"), api.ErrCycle)
	refuseFiles(t, files("a: package main; import \"x\"; type A x.T; type B B", "x/a: package x; type T int; var a @v; var v int"), api.ErrType)
	refuseFiles(t, files("x/a: package x; import \"y\"; type T y.T; type C C", "a: package main; var a @v; var v int", "y/a: package y; type T int; type C C"), api.ErrType)
	refuseFiles(t, files("x/a: package x; type @C C", "a: package main; var a v; var v int; type C C"), api.ErrCycle)
	refuseFiles(t, files("b: package main; var a @v", "a: package main; var b v; var v int"), api.ErrType)
	refuseFiles(t, files("b: package main; var a map[@S]int", "a: package main; var b v; var v int; type S struct { }"), api.ErrKey)
}
