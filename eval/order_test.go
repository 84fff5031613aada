package eval_test

import (
	"strings"
	"testing"

	"moniker/api"
)

// callers are functions that print as they are called.
const callers = `
type pt struct { x, y int }
func o(n int) int { print(n); return n }
func ob(b bool) bool { print(b); return b }
func os(s string) string { print(s); return s }
func op(p *int) *int { print("p"); return p }
func osl(s []int) []int { print("s"); return s }
func om(m map[int]int) map[int]int { print("m"); return m }
func of() func(int, int) int { print("f"); return func(a, b int) int { print("in"); return a - b } }
func two() (int, int) { print("two"); return 1, 2 }
func (p pt) sum(n int) int { print("sum"); return p.x + p.y + n }
func opt() pt { print("pt"); return pt{10, 20} }
`

// TestOrder: 0.10, 14.5, 14.9: what is evaluated ahead of what; traces without their line feeds.
func TestOrder(t *testing.T) {
	for _, c := range []struct{ block, trace string }{
		{"print(o(1) + o(2) * o(3))", "1 2 3 7"},
		{"print((o(1) - o(2)) - o(3), o(4))", "1 2 3 4 [-4 4]"},
		{"print(of()(o(1), o(2)))", "\"f\" 1 2 \"in\" -1"},
		{"print(opt().sum(o(1)))", "\"pt\" 1 \"sum\" 31"},
		{"g := opt().sum; print(0); print(g(o(1)))", "\"pt\" 0 1 \"sum\" 31"},
		{"print(ob(false) && ob(true), ob(true) || ob(false))", "false true [false true]"},
		{"print(ob(true) && ob(false), ob(false) || ob(true))", "true false false true [false true]"},
		{"_ = []int{o(1), 3: o(2), o(3)}", "1 2 3"},
		{"_ = map[int]int{o(1): o(2), o(3): o(4)}", "1 2 3 4"},
		{"_ = pt{y: o(1), x: o(2)}", "1 2"},
		{"_ = append(osl(nil), o(1), o(2))", "\"s\" 1 2"},
		{"print(osl([]int{7, 8})[o(1)])", "\"s\" 1 8"},
		{"print(len(osl([]int{7, 8})[o(1):o(2)]))", "\"s\" 1 2 1"},
		{"print(os(\"abc\")[o(1):])", "\"abc\" 1 \"bc\""},
		{"_ = make([]int, o(1), o(2))", "1 2"},
		// An Assign: places, right ones, assignments.
		{"s := []int{0, 0}; osl(s)[o(0)], *op(&s[1]) = o(5), o(6); print(s[0], s[1])", "\"s\" 0 \"p\" 5 6 [5 6]"},
		{"m := map[int]int{}; om(m)[o(1)], om(m)[o(2)] = two(); print(m[1], m[2])", "\"m\" 1 \"m\" 2 \"two\" [1 2]"},
		{"s := []int{0, 1}; osl(s)[o(1)] += o(4); print(s[1])", "\"s\" 1 4 5"},
		{"s := []int{0, 1}; osl(s)[o(1)]++; print(s[1])", "\"s\" 1 2"},
		{"x := 1; x += func() int { x = 10; return 5 }(); print(x)", "15"},
		{"x := 1; y := x + func() int { x = 10; return 5 }(); print(x, y)", "[10 6]"},
		{"s := []int{1, 2}; i := 0; i, s[i] = 1, 9; print(i, s[0], s[1])", "[1 9 2]"},
		{"x, y := 1, 2; p := &x; p, *p = &y, 7; print(x, y, *p)", "[7 2 2]"},
		{"s := []int{1, 2}; s, s[0] = nil, 9; print(len(s))", "0"},
		{"a, b, c := 1, 2, 3; a, b, c = c, a, b; print(a, b, c)", "[3 1 2]"},
		{"x := 0; x, x = 1, 2; print(x)", "2"},
		{"var x pt; x, x.y = pt{1, 2}, 7; print(x.x, x.y)", "[1 7]"},
		{"var x pt; x.y, x = 7, pt{1, 2}; print(x.x, x.y)", "[1 2]"},
		{"_, _ = o(1), o(2)", "1 2"},
		{"var a, b = o(1), o(2); c, d := o(3), o(4); print(a, b, c, d)", "1 2 3 4 [1 2 3 4]"},
		{"var ( a = o(1); b, c = two(); d = o(a + 8) ); print(b, c, d)", "1 \"two\" 9 [1 2 9]"},
		// Statements.
		{"if x := o(1); ob(x > 0) { print(2) } else { print(3) }", "1 true 2"},
		{"if ob(false) { } else if x := o(1); ob(x > 1) { } else { print(x) }", "false 1 false 1"},
		{"switch x := o(1); o(x + 1) { case o(5): case o(2), o(3): print(\"in\"); case o(4): }", "1 2 5 2 \"in\""},
		{"switch o(1) { default: print(\"d\"); case o(2): }", "1 2 \"d\""},
		{"switch { case ob(false), ob(true), ob(true): print(1); case ob(true): }", "false true 1"},
		{"for i := o(0); ob(i < o(2)); o(9) { i++ }", "0 2 true 9 2 true 9 2 false"},
		{"for i, x := range osl([]int{5, 6}) { print(i, x) }", "\"s\" [0 5] [1 6]"},
		{"s := []int{0, 0}; for osl(s)[o(0)], *op(&s[1]) = range []int{5} { print(s[0], s[1]) }", "\"s\" 0 \"p\" [0 5]"},
		{"f := func() (int, int) { return o(1), o(2) }; print(1); a, b := f(); print(a, b)", "1 1 2 [1 2]"},
		{"g := func(a, b int) int { return a - b }; print(g(two()))", "\"two\" -1"},
		{"f := func() (int, int) { return two() }; a, b := f(); print(a, b)", "\"two\" [1 2]"},
	} {
		does(t, "order", callers, c.block, lines(c.trace))
	}
}

// lines makes a trace of a list of events; one of several values stands in [ ].
func lines(list string) string {
	var out strings.Builder
	in := false
	for _, word := range strings.Fields(list) {
		rest, begins := strings.CutPrefix(word, "[")
		rest, last := strings.CutSuffix(rest, "]")
		in = (in || begins) && !last
		out.WriteString(rest)
		if in {
			out.WriteString(" ")
		} else {
			out.WriteString("\n")
		}
	}
	return out.String()
}

// TestStatements: 14.9: which way statements go.
func TestStatements(t *testing.T) {
	for _, c := range []struct{ block, trace string }{
		{"L: for i := 0; i < 3; i++ { for j := 0; j < 3; j++ { if j == 1 { continue L }; if i == 2 { break L }; print(i, j) } }", "[0 0] [1 0]"},
		{"L: for i := range 3 { switch { case i == 1: continue L; case i == 2: break L; default: break }; print(i) }; print(9)", "0 9"},
		{"L: switch { case true: for { break L }; print(1) }; print(2)", "2"},
		{"var x e = 1; L: switch x.(type) { case int: for { break L }; print(1) }; print(2)", "2"},
		{"for i := 0; i < 2; i++ { switch { case true: break; print(1) }; print(i) }", "0 1"},
		{"for i := 0; i < 4; i++ { if i == 1 { continue }; if i == 3 { break }; print(i) }", "0 2"},
		{"L: for { for range 3 { func() { for { break }; print(1) }(); break L } }", "1"},
		{"L: for k, v := range map[int]int{2: 3, 1: 4} { for { print(k, v); continue L } }", "[1 4] [2 3]"},
		{"f := func() int { for { for { return 3 } } }; print(f())", "3"},
		{"f := func() { for i := range 5 { if i == 2 { return }; print(i) } }; f()", "0 1"},
		{"f := func(n int) string { switch n { case 1: return \"a\"; case 2, 3: return \"b\" }; return \"c\" }; print(f(1), f(2), f(3), f(4))", "[\"a\" \"b\" \"b\" \"c\"]"},
		{"switch 2 { case 1: print(1); case 2: print(2); fallthrough; case 3: print(3); fallthrough; default: print(4); case 5: print(5) }", "2 3 4"},
		{"switch 9 { case 1: print(1); default: print(4); fallthrough; case 5: print(5); case 6: print(6) }", "4 5"},
		{"for i := range 3 { switch i { case 1: if i > 0 { break }; print(7); fallthrough; default: print(i) } }", "0 2"},
		{"switch { }; switch 1 { }; switch x := 1; { case x == 2: print(1) }", ""},
		{"x := 1; { x := 2; x++; print(x) }; print(x)", "3 1"},
		{"x := 1; if x := x + 1; x > 1 { x := x + 1; print(x) }; print(x)", "3 1"},
		{"i := 5; for i := 0; i < 1; i++ { print(i) }; print(i)", "0 5"},
		{"a := 1; a, b := 2, a; print(a, b); { a, c := 3, 4; print(a, c) }; print(a)", "[2 1] [3 4] 2"},
		{"for i := range 0 { print(i) }; for i := range -3 { print(i) }; n := 2; for i := range n { n = 9; print(i) }", "0 1"},
		{"type k int; var x e; for x = range k(2) { _, ok := x.(k); print(ok) }", "true true"},
		{"var a, b e; for a, b = range []string{\"z\"} { print(a.(int), b.(string)) }", "[0 \"z\"]"},
		{"var a, b e; for a, b = range map[string]bool{\"z\": true} { print(a.(string), b.(bool)) }", "[\"z\" true]"},
		{"var a, b e; for a, b = range \"A\" { print(a.(int), b.(int)) }", "[0 65]"},
		{"for i, b := range \"a\u00e9\" { print(i, b) }", "[0 97] [1 195] [2 169]"},
		{"s := []int{1, 2, 3}; for i, x := range s { s = nil; print(i, x) }", "[0 1] [1 2] [2 3]"},
		{"s := []int{1, 2, 3}; for i, x := range s { s[2] = 9; s = append(s, 4); print(i, x) }", "[0 1] [1 2] [2 9]"},
		{"s := []int{7, 8}; for s[0], s[1] = range s { print(s[0], s[1]) }", "[0 7] [1 7]"},
		{"var x e = t{5}; switch y := x.(type) { case int: print(y); case t: y.a++; print(y.a) }; print(x.(t).a)", "6 5"},
		{"for n, x := range []e{nil, 1, \"a\", t{}, new(t)} { switch y := x.(type) { case nil: print(n, y == nil); case int, string: print(n, y != nil); case i: print(n, \"i\"); case *t: print(n, y.a); default: print(n, \"d\") } }", "[0 true] [1 true] [2 true] [3 \"d\"] [4 0]"},
		{"for n, x := range []e{im{}, t{}} { switch y := x.(type) { case i: y.m(n); case e: print(n, y == nil) } }", "\"m\" [1 false]"},
		{"var x i; switch x.(type) { case i: print(1); case e: print(2); default: print(3) }", "3"},
		{"var x e; switch x.(type) { case int: print(1); case nil: print(2) }; switch x.(type) { }", "2"},
		{"goto_ := 1; _: goto_++; print(goto_)", "2"},
	} {
		does(t, "statements", "type im struct { }\nfunc (x im) m(n int) { print(\"m\") }", c.block, lines(c.trace))
	}
}

// TestStart: 14.4: package variables in their order, inits, main.
func TestStart(t *testing.T) {
	for _, c := range []struct {
		files []api.File
		end   api.End
		trace string
	}{
		{[]api.File{{Name: "a", Text: "package main\nvar a = o(b + 1)\nvar b = o(c + 1)\nvar c = o(1)\nfunc o(n int) int { print(n); return n }\nfunc main() { print(a, b, c) }"}}, api.EndDone, "1 2 3 [3 2 1]"},
		{[]api.File{{Name: "a", Text: "package main\nvar a, b = o(1), o(2)\nvar c, d = two()\nvar _, e = o(d), o(5)\nfunc two() (int, int) { return o(3), o(4) }\nfunc o(n int) int { print(n); return n }\nfunc main() { print(a, b, c, d, e) }"}}, api.EndDone, "1 2 3 4 4 5 [1 2 3 4 5]"},
		{[]api.File{{Name: "a", Text: "package main\nvar a = f()\nvar b = o(2)\nfunc f() int { return g() }\nfunc g() int { return t{}.m() }\ntype t struct { }\nfunc (x t) m() int { return o(b + 1) }\nfunc o(n int) int { print(n); return n }\nfunc main() { }"}}, api.EndDone, "2 3"},
		{[]api.File{{Name: "a", Text: "package main\nvar a = func() int { return o(b + 1) }()\nvar b = o(2)\nvar _ = o(7)\nfunc o(n int) int { print(n); return n }\nfunc main() { }"}}, api.EndDone, "2 3 7"},
		{[]api.File{{Name: "a", Text: "package main\nfunc main() { print(n, s, b, p == nil, x.a, m == nil, v, ok) }\nvar n int; var s string; var b bool; var p *int; var x t; var m map[int]int\ntype t struct { a int }\nvar v, ok = m[1]"}}, api.EndDone, "[0 \"\" false true 0 true 0 false]"},
		{[]api.File{{Name: "a", Text: "package main\nvar a int\nfunc init() { a++; print(\"i\", a) }\nfunc main() { a++; print(a) }"}, {Name: "b", Text: "package main\nfunc init() { a++; print(\"k\", a); main2() }\nfunc main2() { print(3) }\nfunc init() { a++; print(\"l\", a) }"}}, api.EndDone, "[\"i\" 1] [\"k\" 2] 3 [\"l\" 3] 4"},
		{[]api.File{
			{Name: "m", Text: "package main\nimport \"x\"\nimport q \"y\"\nvar a = x.F(q.V)\nfunc init() { print(\"m\", a) }\nfunc main() { q.V++; print(q.V, x.G(), x.W) }"},
			{Name: "x/b", Text: "package x\nimport \"y\"\nvar W = h(y.V)\nfunc init() { print(\"x\", W); y.V = 20 }\nfunc F(n int) int { print(\"F\", n); return n + 1 }\nfunc G() int { return y.V }"},
			{Name: "y/c", Text: "package y\nvar V = k() + 1\nfunc k() int { print(\"k\", u); return u }\nfunc init() { print(\"y\", V) }"},
			{Name: "x/a", Text: "package x\nfunc h(n int) int { print(\"h\", n); return n * 2 }\nfunc init() { print(\"x2\") }"},
			{Name: "y/d", Text: "package y\nvar u = 5\nfunc init() { V++ }"},
		}, api.EndDone, "[\"k\" 5] [\"y\" 6] [\"h\" 7] [\"x\" 14] \"x2\" [\"F\" 20] [\"m\" 21] [21 21 14]"},
		{[]api.File{{Name: "a", Text: "package main\nimport \"x\"\nfunc main() { x.V.Set(3); p := &x.V.N; x.V.N++; print(*p, (x.V).N, x.V.Get()); x.V = x.T{7}; q := &x.V; print(*p, q.N); f, g := x.T.Get, x.V.Get; x.F = x.Twice; print(f(x.V), g(), x.F(4), x.C, x.L[0].N); x.L[0].Set(5); x.P.N = 6; x.M[1]++; print(x.L[0].Get(), x.P.Get(), x.M[1]) }"}, {Name: "x/b", Text: "package x\ntype T struct { N int }\nfunc (t *T) Set(n int) { t.N = n }\nfunc (t T) Get() int { return t.N }\nvar V T\nvar L = []T{T{1}}\nvar P = &V\nvar M = map[int]int{}\nvar F func(int) int\nconst C = 8\nfunc Twice(n int) int { return 2 * n }"}}, api.EndDone, "[4 4 4] [7 7] [7 7 8 8 1] [5 6 1]"},
		{[]api.File{{Name: "a", Text: "package main\nimport \"x\"\ntype own struct { x.T; *x.U; n int }\ntype face interface { x.I; get() int }\nfunc main() { o := own{x.T{1}, &x.U{2}, 3}; o.up(); o.A, o.B = o.A + 10, o.B + 20; print(o.get(), o.T.A, o.U.B, o.down()); var f face = &o; print(f.down(), f.get(), x.Use(f), x.Use(&o)) }"}, {Name: "x/b", Text: "package x\ntype T struct { A int }\ntype U struct { B int }\ntype I interface { down() int }\nfunc (t *T) up() { t.A++ }\nfunc (t T) get() int { return t.A }\nfunc (u *U) down() int { u.B--; return u.B }\nfunc Use(i I) int { return i.down() }"}}, api.EndDone, "[12 12 22 21] [20 12 19 18]"},
		{[]api.File{{Name: "a", Text: "package main\nimport \"x\"\nfunc main() { print(x.A) }"}, {Name: "x/b", Text: "package x\nvar z = 0\nvar A = 1 + @2 / z\nfunc init() { print(1) }"}}, api.EndZero, ""},
		{[]api.File{{Name: "a", Text: "package main\nimport \"x\"\nfunc init() { print(1); x.P(panic0()) }\nfunc panic0() int { return 1 }\nfunc main() { print(2) }"}, {Name: "x/b", Text: "package x\nfunc P(n int) { @panic(n) }"}}, api.EndPanic, "1"},
		{[]api.File{{Name: "a", Text: "package main\nvar n = 3\nfunc main() { if n > 0 { n--; print(n); main() } }"}}, api.EndDone, "2 1 0"},
		{[]api.File{{Name: "a", Text: "package main\nvar f func(int) int = g\nfunc g(n int) int { return n * 2 }\nvar h = g\nvar k = h\nfunc main() { print(f(2), h(3), k(4)) }"}}, api.EndDone, "[4 6 8]"},
		{[]api.File{{Name: "a", Text: "package main\ntype e interface { }\nvar x e = 1\nvar y, z e = two()\nfunc two() (int, string) { return 2, \"b\" }\nvar w, ok = x.(int)\nfunc main() { print(x.(int), y.(int), z.(string), w, ok) }"}}, api.EndDone, "[1 2 \"b\" 1 true]"},
	} {
		holds(t, "14.4", c.files, 10000, wanted{c.end, lines(c.trace)})
	}
}
