package eval_test

import (
	"fmt"
	"strings"
	"testing"

	"moniker/api"
	"moniker/eval"
)

// TestMaxCalls: Limits: within 199 others a Call runs, within 200 it does not.
func TestMaxCalls(t *testing.T) {
	const down = "func down(n int) int { if n == 0 { return 7 }; return @down(n - 1) }\n"
	for _, c := range []struct {
		decls, block string
		end          api.End
		trace        string
	}{
		{down, "print(down(199))", api.EndDone, "7\n"},
		{down, "print(down(200))", api.EndDeep, ""},
		// What was deeper is set back.
		{down, "for range 3 { print(down(150)) }; print(down(199), down(199))", api.EndDone, "7\n7\n7\n7 7\n"},
		{down, "print(down(down(192) + 192))", api.EndDone, "7\n"},
		{"func down(n int) { if n > 0 { func() { @down(n - 1) }() } }\n", "down(99); print(1)", api.EndDone, "1\n"},
		{"func down(n int) { if n > 0 { func() { @down(n - 1) }() } }\n", "down(100); print(1)", api.EndDeep, ""},
		{"type k int\nfunc (x k) down() { if x > 0 { @k(x - 1).down() } }\n", "k(199).down(); print(1)", api.EndDone, "1\n"},
		{"type k int\nfunc (x k) down() { if x > 0 { @k(x - 1).down() } }\n", "k(200).down(); print(1)", api.EndDeep, ""},
		{"type k int\nfunc (x k) down() { if x > 0 { @k.down(x - 1) } }\n", "k(199).down(); print(1)", api.EndDone, "1\n"},
		{"type k int\nfunc (x k) down() { if x > 0 { @k.down(x - 1) } }\n", "k(200).down(); print(1)", api.EndDeep, ""},
		{"func main2() { n++; @main2() }\nvar n int\n", "main2()", api.EndDeep, ""},
		// Universe functions and conversions are no calls of funcs.
		{down + "func end(n int) int { if n == 0 { x := append([]int{}, len(\"a\"), int(n)); return len(x) }; return end(n - 1) }\n", "print(end(199))", api.EndDone, "2\n"},
		// Arguments are evaluated ahead; nil is told ahead of the depth.
		{"func down(n int) { if n == 0 { f2(@1 / n) }; down(n - 1) }\nfunc f2(n int) { print(n) }\n", "down(199)", api.EndZero, ""},
		{"func down(n int) { if n == 0 { @f2(1 + n) }; down(n - 1) }\nfunc f2(n int) { print(n) }\n", "down(199)", api.EndDeep, ""},
		{"func down(n int) { if n == 1 { f2(1 + n) }; @down(n - 1) }\nfunc f2(n int) { print(n) }\n", "down(199)", api.EndDeep, "2\n"},
		{"func down(n int) { if n == 0 { var h func(int); @h(1) }; down(n - 1) }\n", "down(199)", api.EndNil, ""},
		{"type k struct { }\nfunc (x k) get() int { return 1 }\nfunc down(n int) { if n == 0 { h := (*k).get; print(@h(nil)) }; down(n - 1) }\n", "down(199)", api.EndNil, ""},
		{"type k struct { }\nfunc (x k) get() int { return 1 }\nfunc down(n int) { if n == 0 { h := (*k).get; print(@h(new(k))) }; down(n - 1) }\n", "down(199)", api.EndDeep, ""},
		{"type k struct { }\nfunc (x k) get() int { return 1 }\nfunc down(n int) { if n == 0 { var x *k; print(@x.get()) }; down(n - 1) }\n", "down(199)", api.EndNil, ""},
	} {
		holds(t, "MaxCalls", mainly(strings.Replace(world, "func f() int { print(1); return 2 }", "func f() { }", 1)+c.decls, c.block), 1<<20, wanted{c.end, c.trace})
	}
	// The calls of the start count for no depth: so main has as many as a package variable's expression, and an init.
	holds(t, "MaxCalls", []api.File{{Name: "a", Text: "package main\nvar v = down(199)\nfunc init() { v += down(199) }\nfunc main() { print(v + down(199)); main2() }\nfunc main2() { print(down(198)); down(199) }\n" + down}}, 1<<20, wanted{api.EndDeep, "21\n7\n"})
}

// TestMaxThing: Limits: texts, slices and maps of 2^20, and of one more.
func TestMaxThing(t *testing.T) {
	const text = "x := \"ab\"; for len(x) < 1 << 20 { x += x }; y := x[1:]; _ = y; "
	const table = "m := map[int]int{}; for i := range 1 << 20 { m[i] = i }; print(len(m)); "
	for _, c := range []struct {
		block string
		end   api.End
		trace string
	}{
		{text + "print(len(x), len(y + \"a\"), len(\"a\" + y), len(x + \"\"))", api.EndDone, "1048576 1048576 1048576 1048576\n"},
		{text + "print(len(@y + \"ab\"))", api.EndLarge, ""},
		{text + "print(len(@\"a\" + x))", api.EndLarge, ""},
		{text + "y += \"b\"; print(len(y)); @y += \"b\"", api.EndLarge, "1048576\n"},
		{text + "print(x == y + x[:1], x < y, len(x[1 << 19:]))", api.EndDone, "false true 524288\n"},
		{"s := make([]int, 1 << 20); s[1 << 20 - 1] = 5; print(len(s), s[1 << 20 - 1], s[1 << 19])", api.EndDone, "1048576 5 0\n"},
		{"s := make([]int, 1 << 20 - 1); s = append(s, 7); print(len(s), s[1 << 20 - 1]); s = @append(s, 8)", api.EndLarge, "1048576 7\n"},
		{"s := make([]int, 1 << 20 - 1); s = @append(s, 7, 8)", api.EndLarge, ""},
		{"s := make([]int, 1 << 20 - 1, 1 << 40); s = append(s, 7); print(len(s)); s = @append(s, 8)", api.EndLarge, "1048576\n"},
		{"s := make([]int, 1 << 19); s = append(s, s...); print(len(s), len(append(s))); s = @append(s, s...)", api.EndLarge, "1048576 1048576\n"},
		{"s := make([]int, 1 << 20); s = append(s, nil...); s = append(s[1:], 1); print(len(s)); s = @append(s, s[0])", api.EndLarge, "1048576\n"},
		{"s := make([]int, 0, 1 << 30); u := s[5:1 << 20 + 5]; print(len(u)); u = @s[5:1 << 20 + 6]", api.EndLarge, "1048576\n"},
		{"s := []int{1 << 20: 3}; print(len(s), s[1 << 20]); u := s[1:]; print(len(u)); u = @s[:]", api.EndLarge, "1048577 3\n1048576\n"},
		{"s := []int{1 << 20: 3}; s = @append(s)", api.EndLarge, ""},
		{"s := []int{1 << 20: 3}; u := append(s[:4], 9); print(len(u), s[4]); n := copy(s[1:], u); print(n, s[5]); for i, x := range s { if i > 1048575 { print(i, x) } }", api.EndDone, "5 9\n5 9\n1048576 3\n"},
		{table + "m[5]++; m[1 << 20 - 1] = 0; delete(m, 7); m[-1] = 1; print(len(m)); @m[-2] = 1", api.EndLarge, "1048576\n1048576\n"},
		{table + "@m[-2]++", api.EndLarge, "1048576\n"},
		{table + "for @m[-2] = range 3 { }", api.EndLarge, "1048576\n"},
	} {
		holds(t, "MaxThing", mainly(world, c.block), 1<<27, wanted{c.end, c.trace})
	}
	// A constant text may be longer: only what is made of it is measured.
	long := strings.Repeat("x", api.MaxThing+1)
	for _, c := range []struct {
		block string
		end   api.End
		trace string
	}{
		{"print(len(c), len(c[1:])); x := c; print(len(x), x == c, c == c + \"\", len(c + c))", api.EndDone, "1048577 1048576\n1048577 true true 2097154\n"},
		{"x := @c[:]; _ = x", api.EndLarge, ""},
		{"x := c; x = @x[0:]; _ = x", api.EndLarge, ""},
		{"x, y := c, \"\"; x = @x + y", api.EndLarge, ""},
		{"x := c; @x += \"\"", api.EndLarge, ""},
	} {
		holds(t, "MaxThing", mainly("const c = \""+long+"\"", c.block), 1000, wanted{c.end, c.trace})
	}
}

// TestGreatStructs: P1: structs of more fields than can be told, and copies of them, cost no more than what is looked at.
func TestGreatStructs(t *testing.T) {
	const depth = 70
	decls, block := "type t0 struct { a, b int }\n", "var x0 t0; x0.a, x0.b = 1, 2; "
	for k := 1; k < depth; k++ {
		decls += fmt.Sprintf("type t%d struct { a, b t%d }\n", k, k-1)
		block += fmt.Sprintf("var x%d t%d; x%d.a, x%d.b = x%d, x%d; ", k, k, k, k, k-1, k-1)
	}
	last := fmt.Sprintf("x%d", depth-1)
	b, a := strings.Repeat(".b", depth), strings.Repeat(".a", depth-1)
	block += fmt.Sprintf("y := %s; p := &%s%s; %s%s = 9; print(*p, y%s, %s%s.a); %s = y; print(*p); s := append([]t%d{}, y, %s); s[1]%s = 5; var z interface_ = s[1]; print(s[0]%s, z.(t%d)%s)", last, last, b, last, b, b, last, a, last, depth-1, last, b, b, depth-1, b)
	holds(t, "P1", []api.File{{Name: "a", Text: "package main\ntype interface_ interface { }\n" + decls + "func main() { " + block + " }"}}, 1<<20, wanted{api.EndDone, "9 2 1\n2\n2 5\n"})
}

// TestWideStructs: a struct with many fields, embedded deep.
func TestWideStructs(t *testing.T) {
	var fields, chain strings.Builder
	for k := range 5000 {
		fmt.Fprintf(&fields, "f%d, ", k)
	}
	for k := range 2000 {
		fmt.Fprintf(&chain, "type e%d struct { e%d }\n", k+1, k)
	}
	decls := "type wide struct { " + strings.TrimSuffix(fields.String(), ", ") + " int }\ntype e0 struct { n int }\nfunc (x *e0) set(n int) { x.n = n }\n" + chain.String()
	holds(t, "P1", mainly(decls, "var x wide; for range 100 { x.f4999++; y := x; y.f0 = 5; x = y }; print(x.f0, x.f1, x.f4999); var z e2000; z.set(4); y := z; y.n++; print(z.n, y.e1999.n)"), 1<<16, wanted{api.EndDone, "5 0 100\n4 5\n"})
}

// TestLongChains: P1: what stands in one another as deep as may be is made ready once.
func TestLongChains(t *testing.T) {
	const count = 120
	var ifs, lits, parens strings.Builder
	for k := range count {
		fmt.Fprintf(&ifs, "if x := n; x == %d { print(%d) } else ", k, k)
	}
	for k := range 40 {
		fmt.Fprintf(&lits, "func(a%d int) { n++; ", k)
		fmt.Fprintf(&parens, "&*")
	}
	block := "n := 119; " + ifs.String() + "{ }; " + lits.String() + "print(a0, a39, n)" + strings.Repeat(" }(n)", 40) + "; p := " + parens.String() + "&n; *p++; print(n)"
	holds(t, "P1", mainly(world, block), 1<<16, wanted{api.EndDone, "119\n119 158 159\n160\n"})
}

// TestDeepest: P1: as many calls within one another as may be, each in as deep an expression as may be.
func TestDeepest(t *testing.T) {
	nest := 200
	call := strings.Repeat("(", nest) + "d(n - 1)" + strings.Repeat(")", nest)
	w := opened(t, mainly("func d(n int) int { if n == 0 { return 1 }; return "+call+" }", "print(d(199))"))
	if r := eval.Run(w, 1<<20); r.End != api.EndDone || eval.Show(r.Trace) != "1\n" {
		t.Errorf("P1: %v", r)
	}
}
