package eval_test

import (
	"testing"

	"moniker/api"
)

// shapes are types for values that are copied, shared and pointed into.
const shapes = `
type p2 struct { x, y int }
type line struct { from, to p2; name string }
type deep struct { line; p *p2; list []p2 }
type n int
type h2 struct { x int }
func moved(l line) line { l.from.x = 100; return l }
`

// TestStructs: 14.Words: structs are copied when they are read, and assigned field by field.
func TestStructs(t *testing.T) {
	for _, c := range []struct{ block, trace string }{
		{"a := p2{1, 2}; b := a; b.x = 5; print(a.x, b.x)", "[1 5]"},
		{"a := line{p2{1, 2}, p2{3, 4}, \"a\"}; b := a; b.from.x = 9; a.to.y = 8; print(a.from.x, a.to.y, b.from.x, b.to.y)", "[1 8 9 4]"},
		{"var a line; p := &a.from.x; a.from.x = 3; print(*p); a.from = p2{4, 5}; print(*p); a = line{name: \"z\", from: p2{x: 6}}; print(*p); *p = 7; print(a.from.x)", "3 4 6 7"},
		{"var a line; p := &a.from; q := &p.y; a = line{from: p2{1, 2}}; print(p.x, *q); *p = p2{5, 6}; print(a.from.x, a.from.y, *q)", "[1 2] [5 6 6]"},
		{"var a line; p, q := &a.from, &a.from; r := &a.to; print(p == q, p == r, &a.from.x == &p.x, &a.from.x == &a.from.y)", "[true false true false]"},
		{"a := p2{1, 2}; p := &a; b := *p; p.x = 7; print(a.x, b.x); *p = p2{8, 9}; print(a.x, a.y, b.y)", "[7 1] [8 9 2]"},
		{"a, b := p2{1, 2}, p2{3, 4}; p := &a.x; a, b = b, a; print(a.x, b.x, *p)", "[3 1 3]"},
		{"a := line{}; b := moved(a); print(a.from.x, b.from.x)", "[0 100]"},
		{"var a deep; a.from.x = 1; a.name = \"n\"; b := a; b.line.from.x = 2; print(a.from.x, a.line.from.x, b.from.x, b.name)", "[1 1 2 \"n\"]"},
		{"var a deep; p := &a.line; p.to.x = 4; a.p = &a.to; a.p.y = 5; b := a; a.p.y = 6; print(b.to.y, b.p.y, a.to.y)", "[5 6 6]"},
		{"s := []p2{p2{1, 2}, p2{3, 4}}; a := s[0]; s[0].x = 9; print(a.x, s[0].x); p := &s[1]; s[1] = p2{5, 6}; print(p.x); p.y = 7; print(s[1].y)", "[1 9] 5 7"},
		{"s := []p2{p2{1, 2}, p2{3, 4}}; p := &s[0].x; s[0], s[1] = s[1], s[0]; print(*p, s[1].x)", "[3 1]"},
		{"s := []p2{p2{1, 2}, p2{3, 4}}; for _, a := range s { a.x = 9 }; for i := range s { s[i].y = 8 }; print(s[0].x, s[1].y)", "[1 8]"},
		{"m := map[int]p2{1: p2{1, 2}}; a := m[1]; a.x = 9; print(m[1].x, m[2].y); m[1] = a; a.x = 0; print(m[1].x)", "[1 0] 9"},
		{"a := p2{1, 2}; var x e = a; a.x = 9; b := x.(p2); b.y = 7; c := x.(p2); print(b.x, c.x, c.y)", "[1 1 2]"},
		{"a := p2{1, 2}; f := func(b p2) p2 { b.x = 9; return b }; b := f(a); print(a.x, b.x); g := func() p2 { return a }; c := g(); c.x = 3; print(a.x)", "[1 9] 1"},
		{"a := &p2{1, 2}; b := a; b.x = 9; print(a.x, a == b, a == &p2{9, 2}, new(p2) == new(p2))", "[9 true false false]"},
		{"type empty struct { }; a, b := &empty{}, &empty{}; var c, d empty; print(a == b, a == a, &c == &d, &c == &c)", "[false true false true]"},
		{"a := []*p2{new(p2), nil}; a[1] = a[0]; a[1].x = 3; print(a[0].x, a[0] == a[1])", "[3 true]"},
		{"f := func() *int { x := 1; return &x }; p, q := f(), f(); *p = 5; print(*p, *q, p == q)", "[5 1 false]"},
		{"x := 1; p := &x; pp := &p; **pp = 4; y := 2; *pp = &y; *p = 5; print(x, y)", "[4 5]"},
		{"type h struct { a int; _ string; b, _, c int }; x := h{1, 2, 3}; y := h{c: 9}; y.b = x.a; print(x.a, x.b, x.c, y.a, y.b, y.c)", "[1 2 3 0 1 9]"},
		{"type h struct { *deep; n }; x := h{&deep{}, 4}; x.from.x = 5; y := x; y.to.y, y.n = 6, 7; print(x.deep.line.from.x, x.to.y, x.n, y.n)", "[5 6 4 7]"},
		{"type h struct { p2 }; { type h struct { h1 h2 }; print(h{h2{3}}.h1.x) }; print(h{p2{1, 2}}.y)", "3 2"},
		// what was assigned to a part is read with the whole
		{"var a line; a.from.x = 3; q := a.from; b := a; a.from.x = 4; print(q.x, b.from.x, a.from.x)", "[3 3 4]"},
		{"var a line; p := &a; p.from.y = 3; p.name = \"n\"; b := *p; c := p.from; (*p).from.y++; print(b.from.y, b.name, c.y, a.from.y)", "[3 \"n\" 3 4]"},
		{"a := p2{1, 2}; p := &a; (*p).x = 5; ((*p)).y++; print(a.x, a.y)", "[5 3]"},
		{"var a deep; a.p = &a.from; a.p.x = 6; a.list = append(a.list, a.from, *a.p); a.list[1].y = 7; b := a.list[1]; print(a.list[0].x, b.x, b.y, a.from.y); var x e = a.line; print(x.(line).from.x)", "[6 6 7 0] 6"},
		{"s := make([]line, 2); s[0].from.x = 3; s[1] = s[0]; s[0].from.x = 4; u := append([]line{}, s...); m := map[int]line{1: s[0]}; s[0].from.x = 5; f := func() line { return s[0] }; print(s[1].from.x, u[0].from.x, m[1].from.x, f().from.x)", "[3 4 4 5]"},
		{"(&p2{1, 2}).x = 3; p := &((p2{1, 2})); p.y++; print(p.x, p.y)", "[1 3]"},
		{"s := &[]int{1, 2}; (*s)[0] = 5; *s = append(*s, 3); print((*s)[0], len(*s)); m := &map[int]int{}; (*m)[1] = 2; print(len(*m))", "[5 3] 1"},
		{"a := line{name: \"n\"}; a.from, a.to = a.to, p2{7, 8}; a.to.x++; print(a.from.x, a.to.x, a.name)", "[0 8 \"n\"]"},
	} {
		does(t, "structs", shapes, c.block, lines(c.trace))
	}
}

// TestSlices: 14.8: what slices share, and what append, copy and Slice do.
func TestSlices(t *testing.T) {
	for _, c := range []struct{ block, trace string }{
		{"s := []int{1, 2, 3}; u := s[1:]; u[0] = 9; print(s[1], len(u)); v := s[:1]; v = append(v, 7); print(s[1], u[0])", "[9 2] [7 7]"},
		{"s := make([]int, 2, 3); a := append(s, 1); b := append(s, 2); print(a[2], b[2], len(s)); c := append(a, 3); c[0] = 5; print(s[0], a[0], c[0])", "[2 2 2] [0 0 5]"},
		{"s := make([]int, 0, 2); a := append(s, 1, 2); b := append(s, 3); print(a[0], a[1], b[0]); c := append(s, 4, 5, 6); print(a[0], c[0])", "[3 2 3] [3 4]"},
		// The new array: the greatest of 4, twice the old capacity, the new length.
		{"var s []int; s = append(s, 1); print(len(s[:4])); s = @s[:5]", "4 !"},
		{"s := []int{1, 2, 3}; s = append(s, 4); print(len(s[:6])); s = @s[:7]", "6 !"},
		{"s := make([]int, 2, 5); s = append(s, 1, 2, 3, 4); print(len(s[:10])); s = @s[:11]", "10 !"},
		{"s := []int{1}; s = append(s, 2, 3, 4, 5, 6, 7); print(len(s[:7])); s = @s[:8]", "7 !"},
		{"s := []int{1, 2}; s = append(s, []int{3, 4}...); print(len(s[:4])); s = @s[:5]", "4 !"},
		{"s := []int{1, 2}; s = append(s, 3, 4); s = @s[:5]", "!"},
		{"s := []int{1, 2}; u := append(s); u[0] = 5; print(s[0]); u = append(s, nil...); u[0] = 6; print(s[0]); var z []int; print(append(z) == nil, append(z, z...) == nil, append(z, []int{}...) == nil)", "5 6 [true true true]"},
		{"s := []int{1, 2, 3, 4}; copy(s[1:], s); print(s[0], s[1], s[2], s[3]); copy(s, s[2:]); print(s[0], s[1], s[2], s[3])", "[1 1 2 3] [2 3 2 3]"},
		{"s := []int{1, 2, 3}; u := make([]int, 2); n := copy(u, s); print(n, u[0], u[1]); print(copy(s, u[1:]), s[0], copy(s, nil2()), copy(nil2(), s))", "[2 1 2] [1 2 0 0]"},
		{"s := []int{1, 2, 3, 4, 5}; s = append(s[:1], s...); print(len(s), s[0], s[1], s[5])", "[6 1 1 5]"},
		{"s := make([]int, 3, 9); s[0], s[1], s[2] = 1, 2, 3; s = append(s[:1], s...); print(len(s), s[0], s[1], s[2], s[3])", "[4 1 1 2 3]"},
		{"s := make([]int, 1, 4); u := s[:4]; s = append(s, 8); print(u[1], u[2], len(s[3:]), len(s[2:4]))", "!"},
		{"s := []p2{p2{1, 2}}; u := append(s, s[0]); u[0].x = 5; u[1].y = 6; print(s[0].x, s[0].y, u[0].y, u[1].x)", "[1 2 2 1]"},
		{"s := make([]p2, 1, 3); p := &s[:2][1]; s = append(s, p2{3, 4}); print(p.x); p.y = 9; print(s[1].y); copy(s, s[1:]); p.x = 0; print(s[0].x, s[0].y)", "3 9 [3 9]"},
		{"s := make([]p2, 2); p, q := &s[0], &s[1].y; copy(s, []p2{p2{1, 2}, p2{3, 4}}); print(p.x, *q)", "[1 4]"},
		{"s := make([]p2, 2, 4); p, q := &s[0], &s[:3][2]; p.x, q.y = 5, 6; copy(s, make([]p2, 1)); u := append(s, make([]p2, 1)...); print(p.x, q.y, len(u))", "[0 0 3]"},
		{"s := []int{1, 2, 3}; copy(s[1:], make([]int, 1)); print(s[0], s[1], s[2]); s = append(s[:0], make([]int, 2)...); print(s[0], s[1], s[:3][2])", "[1 0 3] [0 0 3]"},
		{"var s []int; print(s == nil, s[:] == nil, s[0:0] == nil, len(s), []int{} == nil, []int{}[:] == nil, make([]int, 0) == nil)", "[true true true 0 false false false]"},
		{"s := [][]int{[]int{1}, nil}; s[1] = s[0]; s[1][0] = 5; print(s[0][0], len(s[1]))", "[5 1]"},
		{"s := []int{5: 1, 2, 0: 7}; print(len(s), s[0], s[4], s[5], s[6]); u := []string{2: \"c\"}; print(len(u), u[0], u[2])", "[7 7 0 1 2] [3 \"\" \"c\"]"},
		{"s := make([]int, 3, 10); u := s[1:2]; print(len(u[:9])); u = u[3:5]; u[0] = 4; print(s[:8][4])", "9 4"},
		{"s := make([]int, 1, 4611686018427387904); u := s[4611686018427387900:4611686018427387904]; u[3] = 5; v := s[4611686018427387903:4611686018427387904]; print(v[0], len(u), s[0]); u = append(u[:3], 6); print(v[0]); u = append(u, 7); v[0] = 8; print(u[3], u[4], len(u[:8]))", "[5 4 0] 6 [6 7 8]"},
		{"s := \"abcdef\"; u := s[1:4]; print(u, u[1:], s[:0], len(s[2:]), u[0]); print(s[1:3] + s[4:])", "[\"bcd\" \"cd\" \"\" 4 98] \"bcef\""},
		{"type l []int; var s l = l{1}; s = append(s, 2); var u []int = s; u[0] = 9; print(s[0], len(s[1:]))", "[9 1]"},
		{"s := []e{1, nil, \"a\", t{2}}; s = append(s, 5, nil, s[0]); print(len(s), s[0].(int), s[1] == nil, s[3].(t).a, s[4].(int), s[5] == nil, s[6].(int))", "[7 1 true 2 5 true 1]"},
		{"s := make([]int, 200); for i := range s { s[i] = i }; copy(s[3:], s); print(s[2], s[3], s[199]); u := append(s, 7); u[150] = 0; print(s[150], u[200], len(u[:400]))", "[2 0 196] [147 7 400]"},
	} {
		want := wanted{api.EndDone, lines(c.trace)}
		if n := len(c.trace); n > 0 && c.trace[n-1] == '!' {
			want = wanted{api.EndIndex, lines(c.trace[:n-1])}
		}
		holds(t, "slices", mainly(world+shapes+"func nil2() []int { return nil }", c.block), 1<<16, want)
	}
}

// TestMaps: 14.8, 14.9.
func TestMaps(t *testing.T) {
	for _, c := range []struct{ block, trace string }{
		{"m := map[string]int{\"a\": 1}; u := m; u[\"b\"] = 2; m[\"a\"]++; print(len(m), u[\"a\"], m[\"b\"], m[\"c\"])", "[2 2 2 0]"},
		{"m := map[int]int{}; m[1] += 5; m[1] -= 2; m[2]++; v, ok := m[1]; w, no := m[9]; print(v, ok, w, no); delete(m, 1); delete(m, 7); _, ok = m[1]; print(ok, len(m))", "[3 true 0 false] [false 1]"},
		{"m := map[int]int{3: 1, -2: 2, 0: 3, 100: 4}; for k, v := range m { print(k, v) }", "[-2 2] [0 3] [3 1] [100 4]"},
		{"m := map[string]bool{\"b\": true, \"\": false, \"ab\": true, \"a\": false, \"B\": true}; for k := range m { print(k) }", "\"\" \"B\" \"a\" \"ab\" \"b\""},
		{"for k, v := range map[bool]string{true: \"t\", false: \"f\"} { print(k, v) }", "[false \"f\"] [true \"t\"]"},
		{"m := map[int]int{1: 1, 2: 2, 3: 3}; for k, v := range m { print(k, v); delete(m, 2); m[3] = 9; m[0] = 5; m[7] = 7 }; print(len(m))", "[1 1] [3 9] 4"},
		{"m := map[int]int{1: 1, 2: 2, 3: 3}; for k, v := range m { print(k, v); delete(m, 3); if k == 2 { m[3] = 8 }; m[k + 1] += 10 }", "[1 1] [2 12] [3 18]"},
		{"m := map[int]int{1: 1, 2: 2}; for k := range m { for j := range m { delete(m, j); print(k, j) } }; print(len(m))", "[1 1] [1 2] 0"},
		{"m := map[int]int{1: 1, 2: 2}; for k := range m { m = map[int]int{5: 5}; print(k) }; print(m[5])", "1 2 5"},
		// ranged over again
		{"m := map[int]int{5: 1}; for k := range m { print(k) }; m[3] = 1; for k := range m { print(k) }; delete(m, 5); m[4] = 1; for k := range m { print(k) }", "5 3 5 3 4"},
		{"m := map[int]int{1: 1, 2: 1}; for range m { }; delete(m, 2); for k := range m { print(k); m[2] = 1 }; for k := range m { print(k); delete(m, 2); m[2] = 3; m[0] = 1 }", "1 1 2"},
		{"x := 1; m := map[int]string{x: \"a\", 2: \"b\", x + 1: \"c\", x: \"d\"}; print(len(m), m[1], m[2])", "[2 \"d\" \"c\"]"},
		{"var m map[string]int; for range m { print(1) }; print(m == nil, len(m), make(map[int]int) == nil, map[int]int{} == nil)", "[true 0 false false]"},
		{"m := map[n]p2{1: p2{2, 3}}; print(m[1].y, m[n(1)].x); m[2] = p2{}; m[2] = p2{y: 7}; print(m[2].y)", "[3 2] 7"},
		{"m := map[string][]int{}; m[\"a\"] = append(m[\"a\"], 1, 2); m[\"a\"][0] = 7; print(m[\"a\"][0], len(m[\"b\"]))", "[7 0]"},
		{"m := map[string]map[int]int{\"a\": map[int]int{}}; m[\"a\"][1] = 2; print(m[\"a\"][1], m[\"b\"][1], m[\"b\"] == nil)", "[2 0 true]"},
		{"m := map[int]e{1: 2}; m[2] = \"x\"; m[3] = nil; v, ok := m[3]; w, no := m[4]; print(m[1].(int), m[2].(string), v == nil, ok, w == nil, no)", "[2 \"x\" true true true false]"},
		{"m := map[int]func() int{1: func() int { return 5 }}; print(m[1](), m[2] == nil)", "[5 true]"},
		{"type b bool; var y b; var z e; m := map[int]int{1: 2}; _, y = m[1]; _, z = m[2]; print(y, z.(bool))", "[true false]"},
	} {
		does(t, "maps", shapes, c.block, lines(c.trace))
	}
}

// TestFuncs: 14.8: what funcs hold of the variables around them.
func TestFuncs(t *testing.T) {
	for _, c := range []struct{ block, trace string }{
		{"x := 1; f := func() int { x++; return x }; print(f(), f(), x); x = 10; print(f())", "[2 3 3] 11"},
		{"mk := func() func() int { n := 0; return func() int { n++; return n } }; a, b := mk(), mk(); print(a(), a(), b())", "[1 2 1]"},
		{"var fs []func(); for i := 0; i < 3; i++ { fs = append(fs, func() { print(i); i += 10 }) }; for _, f := range fs { f(); f() }", "0 10 1 11 2 12"},
		{"var fs []func() int; for i := 0; i < 6; i++ { i++; fs = append(fs, func() int { return i }) }; print(len(fs), fs[0](), fs[1](), fs[2]())", "[3 1 3 5]"},
		{"var ps []*int; for i, j := 0, 5; i < 2; i, j = i + 1, j - 1 { ps = append(ps, &i, &j) }; *ps[0] = 9; print(*ps[0], *ps[1], *ps[2], *ps[3])", "[9 5 1 4]"},
		{"var fs []func() int; for a := (p2{0, 5}); a.x < 3; a.x++ { a.y += a.x; fs = append(fs, func() int { a.x += 100; return a.x + a.y }) }; print(fs[0](), fs[1](), fs[2](), fs[0]())", "[105 107 110 205]"},
		{"var f func() int; for i := 0; i < 3; i++ { if i == 0 { f = func() int { return i } }; continue }; print(f())", "0"},
		{"var f func(); for i := 0; i < 3; i++ { if f != nil { f() }; f = func() { i += 5; print(i) } }; f()", "5 6 7"},
		{"for i, step := 0, func() { }; i < 2; i++ { step(); step = func() { print(i) }; step() }", "0 0 1"},
		{"var fs []func() int; for i, x := range []int{5, 6} { fs = append(fs, func() int { x++; return i * 100 + x }) }; print(fs[0](), fs[0](), fs[1]())", "[6 7 107]"},
		{"var fs []func() int; for k, v := range map[int]int{1: 2, 3: 4} { fs = append(fs, func() int { return k * v }) }; for i := range 2 { fs = append(fs, func() int { return i }) }; print(fs[0](), fs[1](), fs[2](), fs[3]())", "[2 12 0 1]"},
		{"i := 0; var fs []func() int; for i = 0; i < 2; i++ { fs = append(fs, func() int { return i }) }; for i = range 7 { fs = append(fs, func() int { return i }) }; print(fs[0](), fs[1](), fs[5]())", "[6 6 6]"},
		{"var fs []func() int; for n := 0; n < 2; n++ { x := n * 10; y := &x; fs = append(fs, func() int { *y++; return x }) }; print(fs[0](), fs[0](), fs[1]())", "[1 2 11]"},
		{"var fib func(int) int; fib = func(n int) int { if n < 2 { return n }; return fib(n - 1) + fib(n - 2) }; print(fib(10))", "55"},
		{"f := func(a int) func(int) func(int) int { return func(b int) func(int) int { a += b; return func(c int) int { b += c; return a * 100 + b } } }; g := f(1)(2); print(g(3), g(4))", "[305 309]"},
		{"x := 1; func() { x := x; x = 5; func() { x++; print(x) }() }(); print(x)", "6 1"},
		{"f := func(x, y int) int { x, y = y, x; return x - y }; a := 3; print(f(a, 5), a)", "[2 3]"},
		{"f := func(_ int, _ string) { print(1) }; f(2, \"a\")", "1"},
		{"f := func(x e) bool { return x == nil }; var p *int; print(f(nil), f(p), f(1))", "[true false false]"},
		{"f := func() (e, int) { return 1, 2 }; a, b := f(); var c, d e; c, d = f(); print(a.(int), b, c.(int), d.(int)); g := func(x, y e) int { return x.(int) - y.(int) }; print(g(f()))", "[1 2 1 2] -1"},
		{"type op func(int) int; var f op = func(n int) int { return n + 1 }; g := op(func(n int) int { return n * 2 }); print(f(g(3)), f == nil, op(nil) == nil)", "[7 false true]"},
		{"var x e = 1; switch y := x.(type) { case int: f := func() int { y++; return y }; print(f(), f(), y) }", "[2 3 3]"},
		{"if x := 1; x > 0 { f := func() int { x++; return x }; f(); print(x) }", "2"},
		{"x := 1; p := &x; x, y := 2, 3; print(*p, y)", "[2 3]"},
		{"var ps []*int; for range 2 { var x int; x++; ps = append(ps, &x) }; print(*ps[0], *ps[1], ps[0] == ps[1])", "[1 1 false]"},
		{"L: for i := 0; i < 3; i++ { defer_ := func() int { return i }; if i == 1 { continue L }; print(defer_()) }", "0 2"},
	} {
		does(t, "funcs", shapes, c.block, lines(c.trace))
	}
}

// TestOperators: 14.8: what operators make of values that are no constants.
func TestOperators(t *testing.T) {
	const least = "-9223372036854775808"
	for _, c := range []struct{ block, trace string }{
		{"x := 9223372036854775807; y := -x - 1; print(x + 1, y - 1, x * 2, y * y, -y, x + x)", "[" + least + " 9223372036854775807 -2 0 " + least + " -2]"},
		{"y := -9223372036854775807 - 1; z := -1; print(y / z, y % z, y / 2, y >> 63, y >> 1)", "[" + least + " 0 -4611686018427387904 -1 -4611686018427387904]"},
		{"a, b := 7, 2; print(a / b, a % b, -a / b, -a % b, a / -b, a % -b, -a / -b, -a % -b)", "[3 1 -3 -1 -3 1 3 -1]"},
		{"a, b := 12, 10; print(a & b, a | b, a ^ b, a &^ b, ^a, -a & b, +a)", "[8 14 6 4 -13 0 12]"},
		{"x, s := 1, 62; print(x << s, x << (s + 1), x << (s + 2), x << 1000, x << 9223372036854775807, x << 0)", "[4611686018427387904 " + least + " 0 0 0 1]"},
		{"x, s := -5, 63; print(x >> 1, x >> s, x >> (s + 1), x >> 1000, 5 >> s, 5 >> (s + 1), x << s, x << 64)", "[-3 -1 -1 -1 0 0 " + least + " 0]"},
		{"x := 3; x += 4; x *= 2; x -= 1; x /= 2; x %= 4; print(x); x |= 12; x &= 10; x ^= 3; x <<= 4; x >>= 1; x &^= 8; print(x)", "2 64"},
		{"x := 9223372036854775807; x++; print(x); x--; print(x); y := &x; *y++; print(x)", least + " 9223372036854775807 " + least},
		{"a, b := \"ab\", \"b\"; print(a + b, a < b, a > b, a <= a, a >= b, a == b, a != b, a < \"abc\", \"\" < a)", "[\"abb\" true false true false false true true true]"},
		{"a, b := 1, 2; print(a < b, a > b, a <= a, a >= b, a == b, a != b, a == a)", "[true false true false false true true]"},
		{"a, b := true, false; print(a == b, a != b, !a, !b, a && b, a || b)", "[false true false true false true]"},
		{"a := \"\\xff\"; b := \"\\u00e9\"; print(a[0], len(b), a > b, b < \"z\", a + b == \"\\xff\\u00e9\")", "[255 2 true false true]"},
		{"var p *int; var s []int; var m map[int]int; var f func(); var x e; print(p == nil, s == nil, m == nil, f == nil, x == nil, nil == p, nil != x)", "[true true true true true true false]"},
		{"x := 1; p := &x; q := &x; s := []int{}; m := map[int]int{}; f := func() { }; var y e = p; print(p == q, p == nil, s == nil, m == nil, f == nil, y == nil, nil != y)", "[true false false false false false true]"},
		{"type n int; type s string; var a n = 5; var b s = \"x\"; a += 2; b += \"y\"; print(a, b, a > 6, n(3) * a, s(\"q\") + b, int(a) + 1)", "[7 \"xy\" true 21 \"qxy\" 8]"},
		{"type p *int; x := 1; var a p = &x; var b *int = &x; print(a == b, *a, p(nil) == nil, a == nil)", "[true 1 true false]"},
		{"x := 5; switch x { case 1 << 2 + 1: print(1) }; switch \"a\" { case \"b\": ; case \"a\": print(2) }; var p *int; switch p { case nil: print(3) }; var z e; switch z { case nil: print(4) }", "1 2 3 4"},
		{"print(1 << 3 | 2, \"a\" + \"b\", 1 < 2, -7 / 2, len(\"abc\"), 'a', \"\\\"\\n\", `r`)", "[10 \"ab\" true -3 3 97 \"\\\"\\n\" \"r\"]"},
	} {
		does(t, "operators", "", c.block, lines(c.trace))
	}
	does(t, "operators", "", "print(); print(); print(1)", "\n\n1\n")
}

// TestShadows: what a name is hangs on what it is bound to, universe names too.
func TestShadows(t *testing.T) {
	for _, c := range []struct{ decls, block, trace string }{
		{"func print2(n int) { print(n, \"mine\") }", "len := func(n int) int { return n + 1 }; print2(len(3))", "[4 \"mine\"]"},
		{"func append(a, b int) int { return a * b }\nvar true = false\nconst nil = 5", "print(append(3, 4), true, nil + 1)", "[12 false 6]"},
		{"var make = 3", "type int string; type bool struct { a int }; x := bool{\"q\"}; print(x.a, make, int(\"z\") + x.a)", "[\"q\" 3 \"zq\"]"},
		{"type g interface { get() int }\nfunc (x t) get() int { return x.a }", "type l struct { t; s string }; var x g = l{t{4}, \"\"}; type k struct { g }; y := k{x}; print(x.get(), y.get(), k.get(y), x.(l).a)", "[4 4 4 4]"},
		{"var x = 1\nfunc y() int { return x }", "x := x + 1; { x := x + 1; x++; print(x, y()) }; x, z := 10, x; print(x, z, y())", "[4 1] [10 2 1]"},
		{"func main2() { print(main3) }\nvar main3 = 7", "f := main2; if f != nil { f() }", "7"},
	} {
		does(t, "shadows", c.decls, c.block, lines(c.trace))
	}
}

// TestConversions: 14.Words: what is put into a type.
func TestConversions(t *testing.T) {
	for _, c := range []struct{ block, trace string }{
		{"var x e = n(3); _, a := x.(n); _, b := x.(int); print(a, b); x = 3; _, a = x.(n); _, b = x.(int); print(a, b)", "[true false] [false true]"},
		{"const c n = 4; var x e = c; print(x.(n)); x = 1 + 2; print(x.(int)); x = true; print(x.(bool)); x = \"a\" + \"b\"; print(x.(string)); x = 'a'; print(x.(int))", "4 3 true \"ab\" 97"},
		{"var x e = t{1}; var y e = x; _, ok := y.(e); z, no := y.(g); print(ok, z == nil, no)", "[true true false]"},
		{"var x g = n(2); var y e = x; z := y.(g); print(z.get(), y.(n), g(x).get(), e(x).(n))", "[2 2 2 2]"},
		{"x := e(5); y := e(x); z := e(nil); print(x.(int), y.(int), z == nil)", "[5 5 true]"},
		{"var p *n; var x e = p; q, ok := x.(*n); print(x == nil, q == nil, ok); r, no := x.(*int); print(r == nil, no)", "[false true true] [true false]"},
		{"f := func() e { return n(1) }; g2 := func(x e, y g) { print(x.(n), y.get()) }; g2(f(), n(2)); g2(n(3), n(4))", "[1 2] [3 4]"},
		{"s := struct_{1, nil, n(3)}; print(s.a.(int), s.b == nil, s.c.get()); u := struct_{c: n(5), a: n(6)}; print(u.a.(n), u.c.get())", "[1 true 3] [6 5]"},
		{"var x e = []int{1}; y := x.([]int); y[0] = 5; print(x.([]int)[0]); x = map[string]int{\"a\": 2}; x.(map[string]int)[\"a\"]++; print(x.(map[string]int)[\"a\"]); x = func(a int) int { return a * 2 }; print(x.(func(int) int)(4))", "5 3 8"},
		{"type l []int; var x e = l{1}; _, a := x.([]int); _, b := x.(l); print(a, b); x = []int(l{2}); _, a = x.([]int); print(a)", "[false true] true"},
		{"var v, ok e; m := map[int]e{1: 2}; v, ok = m[1]; print(v.(int), ok.(bool)); v, ok = v.(int); print(v.(int), ok.(bool))", "[2 true] [2 true]"},
		{"a, b := e(1), g(n(2)); a, b = b, n(7); print(a.(n), b.get())", "[2 7]"},
		{"var x e; x, y := 1, 2; print(x.(int), y)", "[1 2]"},
	} {
		does(t, "put into a type", "type n int\ntype g interface { get() int }\nfunc (x n) get() int { return int(x) }\ntype struct_ struct { a, b e; c g }", c.block, lines(c.trace))
	}
}
