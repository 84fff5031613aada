package check_test

import (
	"testing"

	"moniker/api"
)

// TestConstSpecs: ConstSpec of 12.4.
func TestConstSpecs(t *testing.T) {
	refuse(t, []wrong{
		{"const ( a = 1; b; c = iota; d; e ); print(a, b, c, d, e)", api.OK}, {"const @a", api.ErrConst}, {"const ( @a, b; c = 1 )", api.ErrConst}, {"const ( a = 1; b ); const ( @c )", api.ErrConst}, {"const @a, b = 1", api.ErrCount}, {"const @a = 1, 2", api.ErrCount}, {"const ( a, b = 1, 2; @c )", api.ErrCount}, {"const ( a = 1; @b, c )", api.ErrCount}, {"const ( a, b = iota, -iota; c, d ); print(a, b, c, d)", api.OK},
		{"const a = @none()", api.ErrValue}, {"const a = @two()", api.ErrValue}, {"const a = @int", api.ErrValue}, {"const a = @nil", api.ErrConst}, {"const a = @i", api.ErrConst}, {"const a, b = 1, @one()", api.ErrConst}, {"const a = @S{}", api.ErrConst}, {"const a = @func() { }", api.ErrConst}, {"const a = @len(l)", api.ErrConst}, {"const a = @none", api.ErrConst}, {"const a = @1 << i", api.ErrConst},
		{`const a T = 1; const b U = "a"; const c B = 1 < 2; const d T = KT; const e int = K; print(a, b, c, d, e)`, api.OK}, {`const a T = @"a"`, api.ErrAssign}, {"const a int = @KT", api.ErrAssign}, {"const a S = @1", api.ErrAssign}, {"const a Any = @1", api.ErrAssign}, {"const a I = @KT", api.ErrAssign}, {"const a L = @1", api.ErrAssign},
	})
	refuse(t, []wrong{
		{"const a, b T = 1, 2; var c T = a + b; print(c)", api.OK}, {"const a T = @i", api.ErrConst}, {"const a T = @nil", api.ErrConst}, {"const a = 1 @/ 0", api.ErrConst}, {"const ( a T = iota; b; c ); var d T = c; print(d, a, b)", api.OK}, {"const ( a T = iota; b ); var d int = @b; print(d, a)", api.ErrAssign}, {"const ( a = iota; b ); var d T = b; print(d, a)", api.OK},
		{"const ( a = 9223372036854775806 + iota; b; @c )", api.ErrConst}, {"const ( a = 6 / (1 - iota); @b; c )", api.ErrConst}, {"const ( a, b = iota, 1 << (62 + iota); @c, d )", api.ErrConst}, {"const ( a = 1; b = 6 / (2 - iota); @c )", api.ErrConst},
	})
	refuse(t, []wrong{
		{"const ( a = -iota - 9223372036854775807; b; @c )", api.ErrConst}, {"const ( a = @i; b; c ); print(b, c)", api.ErrConst}, {`const ( a = 1 @+ "a"; b, c )`, api.ErrMix}, {"const ( a, b = 1, @i; c )", api.ErrConst}, {`const ( a int = @"x"; b )`, api.ErrAssign},
	})
	refuse(t, []wrong{
		{"const ( _ = iota; a; _; b ); print([]int{a: 1, b: 2}[3])", api.OK}, {"const ( a = iota + iota*iota; b; c ); _ = []int{a: 0, b: 0, c: 0, @6: 0}", api.ErrTwice},
	})
	refuseAll(t, []wrong{
		{"const ( a = b + 1; b = c * 2; c = 3 ); var v [] int = []int{a: 1, @7: 2}", api.ErrTwice}, {"const a = @b; var b = 1", api.ErrConst}, {"const @a = a", api.ErrCycle}, {"const @a = b; const b = c + 1; const c = a", api.ErrCycle}, {"const z = a; const @a = b; const b = a", api.ErrCycle}, {"const ( a = b + iota; @b )", api.ErrCycle}, {"const ( a = c; c = 1; @d = d )", api.ErrCycle}, {"const ( a = b; @b )", api.ErrCycle}, {"const a, b = b, 1", api.OK}, {"const @a, b = b, a", api.ErrCycle}, {"const ( a, b = 1, a; c, d )", api.OK}, {"const ( a, b = d, 1; c, d )", api.OK}, {"const ( a, b = 1, d; c, @d )", api.ErrCycle}, {"const @a, b = 1", api.ErrCount}, {"const ( @a )", api.ErrConst},
	})
	refuseAll(t, []wrong{
		{"func f() { }; const a = len(@f)", api.ErrOperand}, {"func f() { }; const a = @f", api.ErrConst}, {"const a = @func() int { return a }()", api.ErrConst}, {`const a = len(@func() int { return 1 + "a" }())`, api.ErrOperand}, {"const a = len(@func() int { return iota }())", api.ErrOperand},
	})
	refuse(t, []wrong{
		{"const a bool = @1", api.ErrAssign}, {"const a bool = 1 < 2; var b bool = a; print(b)", api.OK}, {"const a bool = true; var b B = @a; print(b)", api.ErrAssign}, {"const ( a bool = 1 < 2; b ); var c B = @b; print(c)", api.ErrAssign},
	})
	refuseAll(t, []wrong{
		{"var v = b; const @a, b = 1", api.ErrCount}, {"var v = a; const ( @a )", api.ErrConst}, {"var v, w = b, c; const ( a, b = 1, 2; @c )", api.ErrCount}, {"const ( a = 1 @/ 0, 2; b, c, d )", api.ErrConst}, {"var v, w = a, b; const @a, b = 1, 2, 3", api.ErrCount}, {"var w = []int{b: 0, @2: 0}; const ( a = 5; b = iota + 1 )", api.ErrTwice}, {"var w = []int{c: 0, @3: 0}; const ( a = 5; b = iota + 1; c )", api.ErrTwice}, {"var w string = c; const ( a = 9223372036854775806 + iota; b; @c )", api.ErrConst},
	})
}

// TestVarSpecs: VarSpec, Define and Assign with = of 12.4.
func TestVarSpecs(t *testing.T) {
	refuse(t, []wrong{
		{`var a int; var b, c = 1, "a"; var d, g T = 1, t; var h, k = two(); var n Any = nil; var o, q = face.(T); print(a, b, c, d, g, h, k, n == nil, o, q)`, api.OK}, {"var @a, b = 1; print(a, b)", api.ErrCount}, {"var @a = 1, 2; print(a)", api.ErrCount}, {"var @a, b, c = two(); print(a, b, c)", api.ErrCount}, {"var @a, b int = none(); print(a, b)", api.ErrCount}, {"var @a, b = (two()); print(a, b)", api.ErrCount}, {`var @a, b = (m["a"]); print(a, b)`, api.ErrCount}, {"var @a, b = (face.(T)); print(a, b)", api.ErrCount}, {"var @a, b = l[0]; print(a, b)", api.ErrCount}, {"var @a, b = str[0]; print(a, b)", api.ErrCount}, {"var @a, b, c = m[\"a\"]; print(a, b, c)", api.ErrCount}, {"var @a, b = int; print(a, b)", api.ErrCount}, {"var @a, b = 1, 2, 3; print(a, b)", api.ErrCount},
		{"var a = @two(); print(a)", api.ErrValue}, {"var a = @none(); print(a)", api.ErrValue}, {"var a = @int; print(a)", api.ErrValue}, {"var a int = @two(); print(a)", api.ErrValue}, {"var a, b = 1, @two(); print(a, b)", api.ErrValue}, {"var a = @nil; print(a)", api.ErrNil}, {"var _ = @nil", api.ErrNil}, {"var a int = @nil; print(a)", api.ErrAssign}, {"var a *S = nil; print(a == nil)", api.OK}, {`var a, b int = 1, @"a"; print(a, b)`, api.ErrAssign}, {"var a, b T = @two(); print(a, b)", api.ErrAssign}, {"var a, b int = @mixed(); print(a, b)", api.ErrAssign}, {"var a, b Any = mixed(); print(a == nil, b == nil)", api.OK}, {`var a, b int = @m["a"]; print(a, b)`, api.ErrAssign}, {"var a, b bool = @face.(T); print(a, b)", api.ErrAssign}, {"type C map[string]bool; var a, b bool = C{}[\"a\"]; print(a, b)", api.OK}, {"type C map[string]B; var a, b B = C{}[\"a\"]; print(a, b)", api.OK},
		{"a := 1; var b int = a; c, d := two(); var g int = c + d; h, ok := m[\"a\"]; var k bool = ok; print(b, g, h, k)", api.OK}, {"a := 1; var b T = @a; print(b)", api.ErrAssign}, {"a := 'x'; var b int = a; print(b)", api.OK}, {"a := KT; var b int = @a; print(b)", api.ErrAssign}, {"a := 1 == 2; var b B = @a; print(b)", api.ErrAssign}, {"@a, b := 1, 2, 3; print(a, b)", api.ErrCount}, {"a := @nil; print(a)", api.ErrNil}, {"_, a := @nil, 1; print(a)", api.ErrNil}, {"a := @two(); print(a)", api.ErrValue}, {"a := @T; print(a)", api.ErrValue}, {"a, b := 1, @none(); print(a, b)", api.ErrValue}, {"@a, b := none(); print(a, b)", api.ErrCount},
		{"a := 1; a, b := 2, a; print(a, b)", api.OK}, {`a := 1; a, b := @"x", 2; print(a, b)`, api.ErrAssign}, {"const c = 1; @c, d := 2, 3; print(c, d)", api.ErrPlace}, {"a := T(1); a, b := 2, 3; print(a, b); var c T = a; print(c)", api.OK}, {"a := \"x\"; a, b := @two(); print(a, b)", api.ErrAssign}, {"a := by; b, a := m[\"x\"]; print(a, b)", api.OK}, {"a := 1; b, a := @m[\"x\"]; print(a, b)", api.ErrAssign}, {"const c = 1; @c, d := 1; print(c, d)", api.ErrPlace}, {`var a Any; b, a := m["x"]; print(a == nil, b)`, api.OK},
		{`i, str = 1, "a"; i, j = j, i; l[0], m["a"], s.a, *p, _ = 1, 2, 3, s, "x"; i, j = two(); i, yes = m["a"]; t, by = face.(T); _, _ = two(); _, _ = m["a"]; any = 1; face = t; p = nil`, api.OK}, {"@i, j = 1", api.ErrCount}, {"@i = 1, 2", api.ErrCount}, {"@i, j, i = two()", api.ErrCount}, {"@i, j = (two())", api.ErrCount}, {"@_, _ = l[0]", api.ErrCount}, {"@_, i = none()", api.ErrCount}, {`@_, _ = (m["a"])`, api.ErrCount}, {"@1 = 2", api.ErrPlace}, {"@i + 1 = 2", api.ErrPlace}, {"@one() = 2", api.ErrPlace}, {"@none() = 2", api.ErrValue}, {"@two() = 2", api.ErrValue}, {"i, @two() = 1, 2", api.ErrValue}, {"i, @3 = 1, \"a\"", api.ErrPlace}, {"@1, 2 = 3", api.ErrPlace}, {`@1, i = 2, "a"`, api.ErrPlace}, {"i = @none()", api.ErrValue}, {"i = @two()", api.ErrValue}, {"i = @int", api.ErrValue}, {"_ = @int", api.ErrValue}, {`i = @"a"`, api.ErrAssign}, {"i = @nil", api.ErrAssign}, {"t = @i", api.ErrAssign}, {"_ = @nil", api.ErrNil}, {"_ = @(nil)", api.ErrNil}, {"face = @s", api.ErrAssign}, {"m[str] = @str", api.ErrAssign}, {"i, j = @mixed()", api.ErrAssign}, {"str, yes = @m[\"a\"]", api.ErrAssign}, {"i, j = @m[\"a\"]", api.ErrAssign}, {"i, any = m[\"a\"]", api.OK}, {"i, face = @m[\"a\"]", api.ErrAssign}, {"s, by = @face.(T)", api.ErrAssign}, {`i, str = @"a", 1`, api.ErrAssign}, {"@l[:] = nil", api.ErrPlace},
	})
	refuse(t, []wrong{{"E.@m = nil", api.ErrMember}, {"@x.F = nil", api.ErrPlace}, {"x.V = x.S{}; x.V.A = 1", api.OK}})
	refuseAll(t, []wrong{
		{"var a, b int = 1, 2; var c = a + b; var d, e = f(); func f() (int, string) { return c, \"\" }; var _ string = e; var _ int = d", api.OK}, {"var @a, b = 1", api.ErrCount}, {`var a int = @"x"; var b string = "y"`, api.ErrAssign}, {"var a = @nil", api.ErrNil}, {"var @a = a", api.ErrCycle}, {"var @a int = a", api.ErrCycle},
	})
	refuseAll(t, []wrong{
		{"var a, @b = f(b); func f(x int) (int, int) { return x, 2 }", api.ErrCycle}, {"var _ = a; var @a = b; var b = a", api.ErrCycle}, {"type S struct { a int }; var a = S{a: 1}", api.OK}, {"var @a = []int{a: 1}", api.ErrCycle}, {"type S struct { b int }; var a = S{b: b}; var b = 1", api.OK}, {"type S struct { a int }; var b S; var a = b.a", api.OK}, {"var a = func() int { return 1 }; var b = a()", api.OK}, {"var @a = func() int { return a() }", api.ErrCycle}, {"var @a = b(); var b = func() int { return a }", api.ErrCycle}, {"var a int; func f() { a := a; print(a) }", api.OK},
	})
	refuse(t, []wrong{
		{"const c = 1; d, @c := 2, 3; print(d)", api.ErrPlace}, {"const c = 1; d, @c := 2; print(d)", api.ErrPlace}, {"i, @1 = 3", api.ErrPlace}, {"@a, b := m[\"x\"], 1, 2; print(a, b)", api.ErrCount}, {"@a, b := two(), 1, 2; print(a, b)", api.ErrCount}, {"var a bool; a = @1; print(a)", api.ErrAssign}, {"var a, b bool = @two(); print(a, b)", api.ErrAssign},
	})
}

// TestStatements: the other statements of 12.4.
func TestStatements(t *testing.T) {
	refuse(t, []wrong{
		{`i += 1; t -= 2; str += "a"; u += "b"; l[0] *= 2; m["a"] /= 3; i <<= t; t >>= 2; i %= 0; i &= 1; i |= j; i ^= 3; i &^= 4; s.a += 1; *pi -= 1; (i) += 1`, api.OK}, {"@i, j += 1, 2", api.ErrCount}, {"@i, j += 1", api.ErrCount}, {"@i += 1, 2", api.ErrCount}, {"@i += two(), 1", api.ErrCount}, {"@none() += 1", api.ErrValue}, {"@int += 1", api.ErrValue}, {"@1 += 2", api.ErrPlace}, {"@K += nil", api.ErrPlace}, {"@one() += none()", api.ErrPlace}, {"@str[0] += 1", api.ErrPlace}, {"i += @none()", api.ErrValue}, {"i += @int", api.ErrValue}, {"i += @nil", api.ErrOperand}, {`i @+= "a"`, api.ErrMix}, {"i @-= t", api.ErrMix}, {"@str -= str", api.ErrOperand}, {"@s += s", api.ErrOperand}, {"@yes += true", api.ErrOperand}, {"@str <<= 1", api.ErrOperand}, {"i <<= @str", api.ErrOperand}, {"i <<= -1", api.OK}, {"i /= 0", api.OK},
	})
	refuse(t, []wrong{
		{"i, j += @none() + 1", api.ErrValue},
		{`i++; t--; l[0]++; m["a"]--; s.a++; *pi++; (i)++`, api.OK}, {"@none()++", api.ErrValue}, {"@int++", api.ErrValue}, {"@1++", api.ErrPlace}, {"@one()++", api.ErrPlace}, {"@K--", api.ErrPlace}, {"@nil++", api.ErrPlace}, {"@str++", api.ErrOperand}, {"@yes--", api.ErrOperand}, {"@s++", api.ErrOperand}, {"@str[0]++", api.ErrPlace},
		{"none(); one(); two(); take(1, 2); copy(l, l); print(); func() { }(); s.v(); f(1); panic(1)", api.OK}, {"@1", api.ErrUse}, {"@i", api.ErrUse}, {"@(none())", api.ErrUse}, {"@T(1)", api.ErrUse}, {"@bool(true)", api.ErrUse}, {"@(T)(1)", api.ErrUse}, {"@[]int(nil)", api.ErrUse}, {"@x.T(1)", api.ErrUse}, {"@i == j", api.ErrUse}, {"@s.v", api.ErrUse}, {"@int", api.ErrUse}, {"@append(l, 1)", api.ErrUse}, {"@len(str)", api.ErrUse}, {"@make(M)", api.ErrUse}, {"@new(int)", api.ErrUse}, {"len := none; len()", api.OK}, {"@func() { }", api.ErrUse}, {"L: @i; for { break L }", api.ErrUse}, {"if @i; true { }", api.ErrUse}, {`len(1 @+ "a")`, api.ErrMix},
		{"if yes { }; if by { }; if true { } else if i == j { } else { }; for yes { }; for { break }; for ; by; { }; for i := 0; i < 3; i++ { }", api.OK}, {"if @none() { }", api.ErrValue}, {"if @int { }", api.ErrValue}, {"if @nil { }", api.ErrOperand}, {"if @1 { }", api.ErrOperand}, {"if @str { }", api.ErrOperand}, {"for @i { }", api.ErrOperand}, {"for ; @nil; { }", api.ErrOperand}, {"for @two() { }", api.ErrValue}, {"if true { } else if @i { }", api.ErrOperand}, {`if i := "a"; @i { }`, api.ErrOperand}, {`for @"a" { }`, api.ErrOperand},
	})
	refuse(t, []wrong{
		{"for a := 0; a < 3; @str++ { }", api.ErrOperand}, {"for a := 1 @+ \"x\"; ; { print(a) }", api.ErrMix}, {"for ; ; { i = @str }", api.ErrAssign}, {"if a := 1 @+ \"x\"; true { print(a) }", api.ErrMix},
	})
}

// TestSwitches: Switch, Match and Fall of 12.4.
func TestSwitches(t *testing.T) {
	refuse(t, []wrong{
		{`switch i { case 1, j, 'a': case 2: default: }; switch t { case 1, t: }; switch { case yes, i == j, true: default: }; switch str { case "a": }; switch p { case nil, pp: }; switch l { case nil: }; switch face { case nil: }; switch 1 { case 1: }; switch KT { case 1, t: }; switch i := 1; i { }; switch { }; switch by { case true, by: }`, api.OK},
		{"switch @none() { }", api.ErrValue}, {"switch @int { }", api.ErrValue}, {"switch @two() { case none(): }", api.ErrValue}, {"switch @nil { case none(): }", api.ErrNil}, {"switch @(nil) { }", api.ErrNil}, {"switch i { case @none(): }", api.ErrValue}, {"switch i { case 1, @int: }", api.ErrValue}, {`switch i { case @"a": }`, api.ErrMix}, {"switch i { case @t: }", api.ErrMix}, {"switch i { case @nil: }", api.ErrMix}, {"switch 1 { case @t: }", api.ErrMix}, {`switch 1 { case @"a": }`, api.ErrMix}, {"switch s { case @s: }", api.ErrOperand}, {"switch l { case @l: }", api.ErrOperand}, {"switch face { case @t: }", api.ErrOperand}, {"switch t { case @face: }", api.ErrOperand}, {"switch p { case @pi: }", api.ErrMix}, {"switch any { case @1: }", api.ErrMix},
	})
	refuse(t, []wrong{
		{"switch yes { case i == j, @1: }", api.ErrMix}, {"switch by { case @i == j: }", api.ErrMix}, {"switch by { case 1 == 2: }", api.OK},
		{"switch { case @none(): }", api.ErrValue}, {"switch { case @1: }", api.ErrOperand}, {"switch { case yes, @nil: }", api.ErrOperand}, {"switch { case @i: }", api.ErrOperand}, {"switch { case by: }", api.OK},
		{"switch i { case 1: case 2, @1: }", api.ErrTwice}, {"switch i { case 3, @K: }", api.ErrTwice}, {`switch str { case "a" + "b", @"ab": }`, api.ErrTwice}, {"switch { case true, @true: }", api.ErrTwice}, {"switch { case true: case @1 == 1: }", api.ErrTwice}, {"switch t { case 4, @KT: }", api.ErrTwice}, {"switch i { case i, i: }", api.OK}, {"switch p { case nil, nil: }", api.OK}, {"switch i { case 1: switch j { case 1: } }", api.OK}, {"switch i { default: case 1: @default: }", api.ErrTwice}, {"switch i { default: @default: default: }", api.ErrTwice}, {"switch { default: switch { default: } }", api.OK},
		{"switch i { case 1: x := 2; print(x @+ \"a\") }", api.ErrMix}, {"switch i := 1; i { case 1: i := \"a\"; print(i) }", api.OK},
		{`switch y := face.(type) { case T: var a T = y; print(a); case *E: _ = y.b; case nil: y.m(); case J, I: y.m(); default: y.m() }; switch any.(type) { case int, string, []int, Any, func(int) string: }`, api.OK},
		{"switch @none().(type) { }", api.ErrValue}, {"switch @i.(type) { }", api.ErrOperand}, {"switch @nil.(type) { }", api.ErrOperand}, {"switch @1.(type) { }", api.ErrOperand}, {"switch @(&face).(type) { }", api.ErrOperand}, {"switch @T.(type) { }", api.ErrValue}, {"switch face.(type) { case @int: }", api.ErrAssert}, {"switch face.(type) { case T, @E: }", api.ErrAssert},
	})
	refuse(t, []wrong{
		{"switch wide.(type) { case @*E: }", api.ErrAssert}, {"switch face.(type) { case J, Any: }", api.OK}, {"switch face.(type) { case T: case *E, @(T): }", api.ErrTwice}, {"switch face.(type) { case nil: case T, @nil: }", api.ErrTwice}, {"switch any.(type) { case []int: case []T, @[]int: }", api.ErrTwice}, {"switch any.(type) { case L: case []int: case I: case J: }", api.OK}, {"switch any.(type) { default: case int: @default: }", api.ErrTwice}, {"switch any.(type) { case int: switch any.(type) { case int: } }", api.OK},
	})
	refuse(t, []wrong{
		{"switch y := any.(type) { case int: print(y + 1); case string: print(y + \"a\"); case T: func() { y.m(); print(y @+ i) }() }", api.ErrMix}, {"switch y := any.(type) { case int, string: print(@y) }", api.ErrOperand}, {"switch y := any.(type) { case nil: print(@y) }", api.ErrOperand}, {"switch y := any.(type) { default: print(@y) }", api.ErrOperand}, {"switch y := any.(type) { case int: y, z := 2, 3; print(y, z) }", api.OK}, {"switch y := any.(type) { case int: y, z := @\"a\", 3; print(y, z) }", api.ErrAssign}, {"switch y := any.(type) { case string: switch y := any.(type) { case int: print(y + 1) }; print(y + \"a\") }", api.OK},
		{"switch i { case 1: fallthrough; case 2: print(); fallthrough; default: }", api.OK}, {"switch i { case 1: @fallthrough }", api.ErrUse}, {"switch i { case 1: @fallthrough; print(); case 2: }", api.ErrUse}, {"switch i { case 1: @fallthrough; ; case 2: }", api.ErrUse}, {"switch i { case 1: { @fallthrough }; case 2: }", api.ErrUse}, {"switch i { case 1: if true { @fallthrough }; case 2: }", api.ErrUse}, {"switch i { case 1: L: @fallthrough; case 2: for { break L } }", api.ErrUse}, {"@fallthrough", api.ErrUse}, {"for { @fallthrough }", api.ErrUse}, {"switch any.(type) { case int: @fallthrough; default: }", api.ErrUse}, {"switch { default: fallthrough; case yes: }", api.OK}, {"switch { case yes: func() { @fallthrough }(); case by: }", api.ErrUse}, {"switch { case yes: fallthrough; case by: @fallthrough }", api.ErrUse},
	})
	refuse(t, []wrong{
		{"switch a := 1 @+ \"x\"; { default: print(a) }", api.ErrMix}, {"switch a := 1 @+ \"x\"; y := any.(type) { default: print(a, y == nil) }", api.ErrMix}, {"switch any.(type) { case bool: case int, @bool: }", api.ErrTwice}, {"switch y := any.(type) { case bool: var a bool = y; print(a) }", api.OK}, {"switch y := any.(type) { case bool: print(y @+ 1) }", api.ErrMix}, {"switch face.(type) { case @bool: }", api.ErrAssert}, {"switch y := any.(type) { case int: func() { print(y + 1) }(); case string: func() { print(y + \"a\") }(); default: _ = y }", api.OK}, {"switch y := any.(type) { case int: func() { print(y @+ \"b\") }(); case string: _ = y }", api.ErrMix},
	})
}

// TestLoops: Range and Return of 12.4.
func TestLoops(t *testing.T) {
	refuse(t, []wrong{
		{`for range l { }; for a := range l { print(a) }; for a, b := range lt { var c T = b; print(a, c) }; for a, b := range "ab" { print(a + b) }; for a, b := range u { print(a + b) }; for a, b := range ms { print(a+"x", b.a) }; for a := range 3 { print(a + i) }; for a := range t { print(a + t) }; for range K { }; for _, b := range l { print(b) }; for _, _ := range l { }; for _ := range 3 { }; for i, str = range []string{} { }; for i = range l { }; for _, i = range l { }; for t = range t { }; for str, s = range ms { }; for l[0], s.a = range l { }; for m["a"] = range 3 { }; for any, any = range l { }; for i = range 3 { }`, api.OK},
		{"for range @none() { }", api.ErrValue}, {"for range @int { }", api.ErrValue}, {"for range @two() { }", api.ErrValue}, {"for range @nil { }", api.ErrOperand}, {"for range @true { }", api.ErrOperand}, {"for range @yes { }", api.ErrOperand}, {"for range @s { }", api.ErrOperand}, {"for range @p { }", api.ErrOperand}, {"for range @none { }", api.ErrOperand}, {"for range @face { }", api.ErrOperand}, {"for a, b := range @f { print(a, b) }", api.ErrOperand},
		{"for @a, b := range 3 { print(a, b) }", api.ErrCount}, {"for @_, _ := range 3 { }", api.ErrCount}, {"for @i, j = range t { }", api.ErrCount}, {"for @i, _ = range 3 { }", api.ErrCount}, {"for i, @1 = range 3 { }", api.ErrPlace}, {"for @1, i = range 3 { }", api.ErrPlace}, {"for i, @none() = range l { }", api.ErrValue}, {"for @int = range l { }", api.ErrValue}, {"for @1 = range s { }", api.ErrPlace}, {"for i = range @s { }", api.ErrOperand}, {"for @K = range l { }", api.ErrPlace},
	})
	refuse(t, []wrong{
		{"for (@_) = range l { }", api.ErrValue}, {"for @str = range l { }", api.ErrAssign}, {"for i, @str = range l { }", api.ErrAssign}, {"for @t = range l { }", api.ErrAssign}, {"for @t = range 3 { }", api.ErrAssign}, {"for @i = range t { }", api.ErrAssign}, {"for @i, j = range m { }", api.ErrAssign}, {"for _, @j = range ms { }", api.ErrAssign}, {"for @u = range m { }", api.ErrAssign}, {"for @1, str = range l { }", api.ErrPlace}, {"for @str, 1 = range l { }", api.ErrAssign}, {"for _, @face = range l { }", api.ErrAssign},
		{"for a := range 3 { var b T = @a; print(b) }", api.ErrAssign}, {"for a := range t { var b int = @a; print(b) }", api.ErrAssign}, {"for a, b := range \"ab\" { var c T = @b; print(a, c) }", api.ErrAssign}, {"for _, b := range lt { print(b @+ i) }", api.ErrMix},
		{"return", api.OK}, {"@return 1", api.ErrCount}, {"return @none()", api.ErrValue}, {"return @two()", api.ErrValue}, {"return 1, @int", api.ErrValue}, {"_ = func() int { @return }", api.ErrCount}, {"_ = func() int { @return 1, 2 }", api.ErrCount}, {"_ = func() int { return @two() }", api.ErrValue}, {"_ = func() (int, int) { return two() }", api.OK}, {"_ = func() (int, int) { return @(two()) }", api.ErrValue}, {"_ = func() (int, int) { @return 1 }", api.ErrCount}, {"_ = func() (int, int, int) { return @two() }", api.ErrValue}, {"_ = func() (int, T) { return @two() }", api.ErrAssign}, {"_ = func() (Any, string) { return mixed() }", api.OK}, {`_ = func() (int, T) { return 1, @"a" }`, api.ErrAssign}, {"_ = func() (int, T) { return @str, nil }", api.ErrAssign}, {"_ = func() *S { return nil }", api.OK}, {"_ = func() S { return @nil }", api.ErrAssign}, {"_ = func() I { return &e }", api.OK}, {"_ = func() I { return @e }", api.ErrAssign}, {"_ = func() T { return 1 }", api.OK}, {"_ = func() T { return @i }", api.ErrAssign}, {`_ = func() (int, int) { return 1 @+ "a" }`, api.ErrMix}, {`_ = func() int { return @none(), 1 }`, api.ErrValue}, {"_ = func() int { func() { return }(); return 1 }", api.OK}, {"_ = func() int { func() { @return 1 }(); return 1 }", api.ErrCount},
	})
}
