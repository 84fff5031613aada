package check_test

import (
	"testing"

	"moniker/api"
)

// TestWhichFault: 12.1: which of several faults is told, and where none is.
func TestWhichFault(t *testing.T) {
	refuse(t, []wrong{
		{`take("a" @+ 1, nil, 2)`, api.ErrMix},
	})
	refuse(t, []wrong{
		{`text(1 @+ "a", 2 + "b")`, api.ErrMix}, {`_ = S{a: 1 @+ "a", zz: 2}`, api.ErrMix}, {`_ = @S{zz: 2, 1}`, api.ErrForm}, {`_ = -(1 @+ "a")`, api.ErrMix}, {`l[1 @+ "a"] = "b"`, api.ErrMix}, {`i, str = 1 @+ "a", 2`, api.ErrMix}, {`i, str = @"x", 2 + true`, api.ErrAssign}, {`@1, str = 2 + "x", 3`, api.ErrPlace}, {`i, j, i = two(1 @+ "a")`, api.ErrMix},
		{`if i == @none() { i = "b" }`, api.ErrValue}, {`if true { i = @"b" } else { i = 1 + "c" }`, api.ErrAssign}, {`for i := 1 @+ "a"; i; i++ { }`, api.ErrMix}, {`switch 1 @+ "a" { case "b": }`, api.ErrMix}, {`switch { case 1 == 2 @+ "a", 1: }`, api.ErrMix}, {`return 1 @+ "a", none()`, api.ErrMix},
		{`q := func() { _ = 1 @+ "a" }; q(1)`, api.ErrMix}, {`@take(func() { _ = 1 + "a" })`, api.ErrCount}, {`take(@func() { _ = 1 + "a" }, 1)`, api.ErrAssign}, {`_ = func() { _ = func() { _ = 1 @+ "a" }; _ = 2 + "b" }`, api.ErrMix},
	})
	refuse(t, []wrong{
		{`@func() { _ = 1 + "a" }(3)`, api.ErrCount}, {`_ = (func() { _ = 1 @+ "a" })`, api.ErrMix},
		{`a := 1 @+ "x"; a.b(); a = "y"; _ = a + true; a++; a`, api.ErrMix}, {`var a = @nil; take(a, a + "x", a.b); for range a { }; switch a { case 1, 1: }`, api.ErrNil}, {`a, b := 1 @+ "x", 2; b = a; c, d := a; print(c, d)`, api.ErrMix}, {`a, b := @nil, 2; b = "x"`, api.ErrNil}, {`@a, b := 1, 2, 3; a = b + "x"`, api.ErrCount}, {`const c = @i; var d T = c; _ = c + "x"`, api.ErrConst}, {`for a, b := range @s { a = b + 1 + "x" }`, api.ErrOperand}, {`switch y := @i.(type) { case int: y = "x" }`, api.ErrOperand},
	})
	refuseAll(t, []wrong{
		{`func f() { var a int = v; v = "x"; _ = v + 1; v.a(); v(); v[0]++; for range v { }; if v { }; g(v, 1); print(v); _ = -v; _ = *v; _ = &v; _ = []int{v: 1}; _ = []string{v}; return v }; func g() { }; var v = 1 @+ "a"`, api.ErrMix},
		{`func f() { @v }; var v = 1 + "a"`, api.ErrUse}, {`func f() { @len(v) }; var v = 1 + "a"`, api.ErrUse}, {`func f() { @int(v) }; var v = 1 + "a"`, api.ErrUse}, {`func f() { v() }; var v = 1 @+ "a"`, api.ErrMix}, {`func f() { v(@_) }; var v = 1 + "a"`, api.ErrValue}, {`func f() { a, b := v; print(a, b) }; var v = 1 @+ "a"`, api.ErrMix}, {`func f() { a, b := v, @none(); print(a, b) }; func none() { }; var v = 1 + "a"`, api.ErrValue}, {`func f() { a, b := v, 1; a = b; b = @"x" }; var v = 1 + "a"`, api.ErrAssign}, {`func f() { v, @1 = 2, 3 }; var v = 1 + "a"`, api.ErrPlace}, {`func f() { x := 1; v, x = 2, @"a"; v = nil; v, x = x }; var v = 1 + "a"`, api.ErrAssign}, {`func f() { switch v { case 1, 1, "a", nil: case @_: } }; var v = 1 + "a"`, api.ErrValue}, {`func f() { switch v { default: @default: } }; var v = 1 + "a"`, api.ErrTwice}, {`func f() { switch v.(type) { case int: case string, @int: } }; var v = 1 + "a"`, api.ErrTwice}, {`func f() { switch y := v.(type) { case int: y = @"x" } }; var v = 1 + "a"`, api.ErrAssign}, {`func f() { switch y := v.(type) { case int, string: y = 1; default: y = 2 } }; var v = 1 @+ "a"`, api.ErrMix}, {`func f() { for i, j := range v { i = j } }; var v = 1 @+ "a"`, api.ErrMix}, {`func f() { for @1 = range v { } }; var v = 1 + "a"`, api.ErrPlace}, {`func f() { v += "a", 1; v++ }; var v = 1 @+ "a"`, api.ErrMix}, {`func f() int { return v, 1 }; var v = 1 @+ "a"`, api.ErrMix},
		{`var a = b; var b = 1 @+ "a"; var c int = a; var d string = b`, api.ErrMix}, {`var c string = a; const a = b; const b = 1 @/ 0`, api.ErrConst}, {`var c string = @a; var a int = 1 + "a"`, api.ErrAssign}, {`func f() { var c string = @g() }; func g() int { return 1 + "a" }`, api.ErrAssign},
	})
	refuseAll(t, []wrong{
		{`func f() { var c string = a }; var @a, b = g(); func g() int { return 1 }`, api.ErrCount}, {`func f() { var c string = @b }; var a, b = g(); func g() (string, int) { return "", 1 }`, api.ErrAssign}, {`func f() { var c string = @b }; var a, b = 1 + "a", 2`, api.ErrAssign},
	})
	refuseAll(t, []wrong{
		{`func f() { switch y := v.(type) { case int, string: y = 1; y.a(); _ = y + "x"; y(); print(y); default: y++; for range y { } } }; var v = 1 @+ "a"`, api.ErrMix},
	})
}

// TestStages: 12.2: by what the first fault of a program is found.
func TestStages(t *testing.T) {
	refuseAll(t, []wrong{
		{`var b = 1 + "a"; var @a = a`, api.ErrCycle}, {`var a = f(); func f() int { return a }; var b = 1 @+ "a"`, api.ErrMix}, {"var @a = f(); func f() int { return a }; func g() { x := 1 }", api.ErrCycle}, {"func g() { @x := 1 }; func h() int { }", api.ErrUnused}, {"func g() { @x := 1 }; var v = func() int { }", api.ErrUnused}, {"var v = func() int { @}; func g() { x := 1 }", api.ErrReturn}, {"func g() { }; var v = []func(){func() { }, func() { @break }}", api.ErrLabel}, {"var v = func() { func() { @x := 1 }() }", api.ErrUnused}, {"func g() { x := 1; @break }", api.ErrLabel}, {"func g() { func() int { @}(); x := 1 }", api.ErrReturn},
	})
	const bad = `var v = 1 @+ "a"`
	for _, c := range []struct {
		files []string
		why   api.Errno
	}{
		{[]string{"a: package main; import \"x\"; var a = x.C + \"a\"; func main() { }", "x/b: package x; const C = 1 @/ 0"}, api.ErrConst},
		{[]string{"a: package main; import \"x\"; var a = x.C @+ \"a\"; func main() { }", "x/b: package x; const C = 1; func f() { y := 1 }"}, api.ErrMix},
		{[]string{"a: package main; import \"x\"; func main() { _ = x.C; z := 1 }", "x/b: package x; const C = 1; func f() { @y := 1 }"}, api.ErrUnused},
		{[]string{"a: package main; import @\"x\"; func main() { }", "x/b: package x; const C = 1"}, api.ErrUnused},
		{[]string{"a: package main; import \"x\"; func main() { @z := 1 }", "x/b: package x; const C = 1"}, api.ErrUnused},
		{[]string{"a: package main; import \"x\"; var @v = f(); func f() int { return v + x.C }; func main() { }", "x/b: package x; const C = 1; func g() { y := 1 }"}, api.ErrCycle},
		{[]string{"a: package main; import \"x\"; func f() { _ = x.C }", "x/b: package x; const C = 1; func g() { @y := 1 }"}, api.ErrUnused},
		{[]string{"a: package main; import \"x\"; var v = x.V @+ \"a\"; func main() { }", "x/b: package x; var V = f(); func f() int { return V }"}, api.ErrMix},
		{[]string{"a: package main; import \"x\"; var v = f(); func f() int { return v + x.V }; func main() { }", "x/b: package x; var @V = f(); func f() int { return V }"}, api.ErrCycle},
		{[]string{"a: package main; import \"x\"; var a = a; func main() { _ = x.V }", "x/b: package x; var V = 1 @+ \"a\""}, api.ErrMix},
		{[]string{"a: package @main; func f() { }"}, api.ErrMain},
		{[]string{"x/a: package x; func main2() { }", "b: package @main", "c: package main"}, api.ErrMain},
		{[]string{"b: package main", "c: package main; func main() { }"}, api.OK},
		{[]string{"b: package main; func f() { " + bad + "; _ = v }", "c: package main; " + `var w = 2 + "b"` + "; func main() { }"}, api.ErrMix},
		{[]string{"b: package main; var a = c", "c: package main; " + bad + "; var c = v; func main() { }"}, api.ErrMix},
		{[]string{"b: package main; var @a = c", "c: package main; var c = a; func main() { }"}, api.ErrCycle},
	} {
		refuseFiles(t, files(c.files...), c.why)
	}
}

// TestNeeds: 0.7: what needs itself, through functions, methods and FuncLits; what does not.
func TestNeeds(t *testing.T) {
	refuseAll(t, []wrong{
		{"type T int; var @a = T(1).m(); func (t T) m() int { return a }", api.ErrCycle}, {"type T int; var @a = T.m; func (t T) m() int { return a(1) }", api.ErrCycle}, {"type T int; var t T; var @a = t.m; func (t T) m() int { return a() }", api.ErrCycle}, {"type T int; func (t T) m() int { return a }; type I interface { m() int }; var i I = T(1); var a = i.m()", api.OK}, {"type T int; func (t T) m() int { return a }; type I interface { m() int }; var a = I.m(T(1))", api.OK}, {"type T int; func (t T) m() int { return a }; type S struct { T }; var @a = S{}.m()", api.ErrCycle}, {"type T struct { a int }; func (t T) m() int { return t.a }; var a = T{a: 1}.m()", api.OK},
		{"var @a = func() int { return a }()", api.ErrCycle}, {"var @a = f; func f() { g() }; func g() { f(); h() }; func h() { _ = a }", api.ErrCycle}, {"var a = f(); func f() int { return f() + g() }; func g() int { return f() }", api.OK}, {"var a, @b = f(); func f() (int, int) { return b, 1 }", api.ErrCycle}, {"var @a, b = f(); func f() (int, int) { return a, 1 }", api.ErrCycle}, {"var _, @b = f(); func f() (int, int) { return b, 1 }", api.ErrCycle}, {"var _ = f(); func f() int { return a }; var a = 1", api.OK}, {"var a = 1; func f() { a = 2; print(a) }; func init() { f() }", api.OK}, {"var @a = f(); var b = 1; func f() int { b := b; return b + a }", api.ErrCycle}, {"var a = f(); func f() int { a := 1; return a }", api.OK}, {"var z = a; var @a = f(); func f() int { return c }; var c = g(); func g() int { return a }", api.ErrCycle}, {"var a *int = &b; var b = 1", api.OK}, {"var @a *int = f(); func f() *int { return *&a }", api.ErrCycle}, {"var a int; func f() { a = g() }; func g() int { f(); return a }", api.OK}, {"var @p = func() { main() }; func main() { p() }", api.ErrCycle},
	})
	refuseAll(t, []wrong{
		{"var @a = f(); func f() int { return func() int { return a }() }", api.ErrCycle}, {"var @a = f(); type T int; func f() int { return T(1).m() }; func (t T) m() int { return a }", api.ErrCycle}, {"func _() int { return a }; func init() { a = 1 }; func (t T) _() { _ = a }; type T int; var a = 2", api.OK},
	})
}
