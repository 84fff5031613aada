package eval_test

import (
	"testing"

	"moniker/api"
)

// hazards are declarations for what ends runs: o prints its argument.
const hazards = `
type q struct { *t; b int }
type w struct { i; b int }
type g interface { get() int }
type z struct { z2 }
type z2 struct { *t }
func (x t) get() int { return x.a }
func (x *t) isNil() bool { return x == nil }
func (x t) m(n int) { }
func o(n int) int { print(n); return n }
func ot(s string) string { print(s); return s }
func none() *t { print("none"); return nil }
func fn() func(int, int) { print("fn"); return nil }
var zero = 0
var big = 1 << 20
`

// TestFaults: 14.6 to 14.9, 0.10: each fault of running, at its token; what was done ahead of it was done.
func TestFaults(t *testing.T) {
	for _, c := range []struct {
		block string
		end   api.End
		trace string
	}{
		// nil
		{"var p *int; print(@*p)", api.EndNil, ""},
		{"var p *int; @*p = f()", api.EndNil, ""},
		{"var p *int; @*p += f()", api.EndNil, ""},
		{"var p *int; @*p++", api.EndNil, ""},
		{"var p **int; print(*@*p)", api.EndNil, ""},
		{"var p *int; q := &p; print(@**q)", api.EndNil, ""},
		{"var p *int; q := &@*p; print(q == nil)", api.EndNil, ""},
		{"var p *t; print(1 + (@p.a))", api.EndNil, ""},
		{"var p *t; print((@*p).a)", api.EndNil, ""},
		{"var p *t; x := &@p.a; _ = x", api.EndNil, ""},
		{"print(@none().a)", api.EndNil, "\"none\"\n"},
		{"var x q; print(@x.a)", api.EndNil, ""},
		{"var x q; @x.a = f()", api.EndNil, ""},
		{"var x *q; print(@x.b)", api.EndNil, ""},
		{"var x z; print(@x.a)", api.EndNil, ""},
		{"var x z; x.t = new(t); print(x.a)", api.EndDone, "0\n"},
		{"var x i; @x.m(f())", api.EndNil, ""},
		{"var x i; h := @x.m; h(1)", api.EndNil, ""},
		{"var x w; @x.m(f())", api.EndNil, ""},
		{"var x *w; @x.m(f())", api.EndNil, ""},
		{"var x q; print(@x.get())", api.EndNil, ""},
		{"var p *t; print(@p.get())", api.EndNil, ""},
		{"var p *t; h := @p.get; print(h())", api.EndNil, ""},
		{"var p *t; var x g = p; print(@x.get())", api.EndNil, ""},
		{"var p *t; h := (*t).get; print(1, @h(p))", api.EndNil, ""},
		{"h := (*t).get; print(@h(none()))", api.EndNil, "\"none\"\n"},
		{"h := g.get; print(@h(nil))", api.EndNil, ""},
		{"h := w.m; @h(w{}, f())", api.EndNil, "1\n"},
		{"var p *t; print(p.isNil()); var x q; print(x.isNil()); print((*t).isNil(nil))", api.EndDone, "true\ntrue\ntrue\n"},
		{"@fn()(o(1), o(2))", api.EndNil, "\"fn\"\n1\n2\n"},
		{"var h func(); @h()", api.EndNil, ""},
		{"var m map[int]int; @m[1] = f()", api.EndNil, "1\n"},
		{"var m map[int]int; (@m[1]) = 2", api.EndNil, ""},
		{"var m map[int]int; @m[1]++", api.EndNil, ""},
		{"var m map[int]int; @m[1] += 2", api.EndNil, ""},
		{"var m map[int]int; for @m[1] = range 3 { print(1) }", api.EndNil, ""},
		{"var m map[int]int; print(m[1], len(m)); delete(m, 1); v, ok := m[2]; print(v, ok)", api.EndDone, "0 0\n0 false\n"},
		// index
		{"s := []int{1}; print(@s[o(1)])", api.EndIndex, "1\n"},
		{"s := []int{1}; print(@s[o(-1)])", api.EndIndex, "-1\n"},
		{"s := make([]int, 1, 9); print(@s[o(1)])", api.EndIndex, "1\n"},
		{"var s []int; print(@s[o(0)])", api.EndIndex, "0\n"},
		{"s := []int{1}; @s[o(1)] = f()", api.EndIndex, "1\n"},
		{"s := []int{1}; @s[o(1)]++", api.EndIndex, "1\n"},
		{"s := []t{}; @s[0].a = f()", api.EndIndex, ""},
		{"s := []int{1}; p := &@s[zero - 1]; _ = p", api.EndIndex, ""},
		{"x := \"ab\"; print(x[1]); print(@x[o(2)])", api.EndIndex, "98\n2\n"},
		{"x := \"ab\"; print(@x[o(-1)])", api.EndIndex, "-1\n"},
		{"s := make([]int, 1, 3); s = s[0:3]; s = @s[o(-1):]", api.EndIndex, "-1\n"},
		{"s := make([]int, 1, 3); s = @s[o(2):]", api.EndIndex, "2\n"},
		{"s := make([]int, 1, 3); s = @s[:o(4)]", api.EndIndex, "4\n"},
		{"s := make([]int, 1, 3); s = @s[o(2):o(1)]", api.EndIndex, "2\n1\n"},
		{"s := make([]int, 1, 3); s = s[2:3]; s = @s[:o(2)]", api.EndIndex, "2\n"},
		{"var s []int; s = @s[:o(1)]", api.EndIndex, "1\n"},
		{"x := \"ab\"; print(x[2:], x[:2], x[1:1]); x = @x[:o(3)]", api.EndIndex, "\"\" \"ab\" \"\"\n3\n"},
		{"x := \"ab\"; x = @x[o(2):o(1)]", api.EndIndex, "2\n1\n"},
		{"x := \"ab\"; x = @x[o(3):]", api.EndIndex, "3\n"},
		{"s := @make([]int, o(-1)); _ = s", api.EndIndex, "-1\n"},
		{"s := @make([]int, big + 1); _ = s", api.EndIndex, ""},
		{"s := @make([]int, big + 1, big + 2); _ = s", api.EndIndex, ""},
		{"s := @make([]int, o(3), o(2)); _ = s", api.EndIndex, "3\n2\n"},
		{"s := @make([]int, o(0), o(-1)); _ = s", api.EndIndex, "0\n-1\n"},
		// zero
		{"print(@o(4) / o(0))", api.EndZero, "4\n0\n"},
		{"print(@o(4) % o(0))", api.EndZero, "4\n0\n"},
		{"x := 1; @x /= o(0)", api.EndZero, "0\n"},
		{"x := 1; @x %= o(0)", api.EndZero, "0\n"},
		{"print(1 + (@2 / zero))", api.EndZero, ""},
		// shift
		{"print(@o(1) << o(-1))", api.EndShift, "1\n-1\n"},
		{"print(@o(1) >> o(-1))", api.EndShift, "1\n-1\n"},
		{"x := 1; @x <<= o(-1)", api.EndShift, "-1\n"},
		{"x := 0; @x >>= zero - 1", api.EndShift, ""},
		// assert
		{"var x e; print(@x.(int))", api.EndAssert, ""},
		{"var x e = 1; print(@x.(string))", api.EndAssert, ""},
		{"var x e = t{}; print(x.(i) == nil)", api.EndDone, "false\n"},
		{"var x e = 1; print(@x.(i) == nil)", api.EndAssert, ""},
		{"var x e; print(@x.(e) == nil)", api.EndAssert, ""},
		{"var x e = new(t); print(@x.(t).a)", api.EndAssert, ""},
		// panic
		{"@panic(o(3))", api.EndPanic, "3\n"},
		{"@panic(\"x\")", api.EndPanic, ""},
		{"func() { @panic(ot(\"y\")) }()", api.EndPanic, "\"y\"\n"},
		// the events ahead of a fault stay
		{"print(1); x := @*none(); print(x.a)", api.EndNil, "1\n\"none\"\n"},
	} {
		ends(t, "faults", hazards, c.block, c.end, c.trace)
	}
}

// TestWhichFault: 0.10: behind the kids, in the order of the kids; of one node the one that is named first.
func TestWhichFault(t *testing.T) {
	for _, c := range []struct {
		block string
		end   api.End
		trace string
	}{
		{"var s []int; print(@s[0] / zero)", api.EndIndex, ""},
		{"var s []int; print(s[@1 / zero])", api.EndZero, ""},
		{"var s []int; print(@1 / zero, s[0])", api.EndZero, ""},
		{"var s []int; print(@s[0], 1 / zero)", api.EndIndex, ""},
		{"var h func(int); h(@1 / zero)", api.EndZero, ""},
		{"var x i; @x.m(1 / zero)", api.EndNil, ""},
		{"var a, b []int; @a[0] = b[1]", api.EndIndex, ""},
		{"var a, b []int; a, @b[0] = a[1:], 1 / zero", api.EndIndex, ""},
		{"var m map[int]int; m[1] = @1 / zero", api.EndZero, ""},
		{"var m map[int]int; @m[1] /= zero", api.EndZero, ""},
		{"var m map[int]int; m[@1 / zero] = f()", api.EndZero, ""},
		{"var m map[int]int; s := []int{1}; s[0], @m[0] = 2, 3", api.EndNil, ""},
		{"var p *int; @*p = 1 / zero", api.EndNil, ""},
		{"var p *t; @p.a /= zero", api.EndNil, ""},
		{"s := make([]int, 1, big + 9); s = @s[2:big * 2]", api.EndIndex, ""},
		{"s := make([]int, 1, big + 9); s = @s[2:big + 3]", api.EndLarge, ""},
		{"var x e; panic(@x.(int))", api.EndAssert, ""},
		{"var s []int; for i, x := range @s[1:] { print(i, x) }", api.EndIndex, ""},
		{"var s []int; switch @s[0] { case 1 / zero: }", api.EndIndex, ""},
		{"switch 1 { case 1: case 1 / zero: }; switch 1 { case 2, @1 / zero: }", api.EndZero, ""},
		{"_ = []int{@1 / zero, *none2()}", api.EndZero, ""},
		{"_ = map[int]int{@*none2(): 1 / zero}", api.EndNil, ""},
		{"_ = t{@1 / zero}", api.EndZero, ""},
		{"if @1 / zero > 0 { print(1) }", api.EndZero, ""},
		{"for @1 / zero > 0 { print(1) }", api.EndZero, ""},
		{"var h func(int) = func(n int) { }; h(1)", api.EndDone, ""},
	} {
		ends(t, "which fault", hazards+"func none2() *int { return nil }", c.block, c.end, c.trace)
	}
}
