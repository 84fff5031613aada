package eval_test

import (
	"testing"

	"moniker/api"
	"moniker/eval"
)

// TestExamples: the chapter's section Examples, with the fuel that is said.
func TestExamples(t *testing.T) {
	recursive := "type t struct { a int }\ntype i interface { m(int) }\ntype e interface { }\nfunc f() int { print(1); return 2 }\nfunc d(n int) int { return @d(n + 1) }\n"
	for _, c := range []struct {
		number string
		block  string
		fuel   int
		want   wanted
		left   int // -1: not said
	}{
		{"1", `print(1 + 2, "a" + "b", 1 < 2)`, 1000, wanted{api.EndDone, "3 \"ab\" true\n"}, 995},
		{"1", `@print(1 + 2, "a" + "b", 1 < 2)`, 0, wanted{api.EndFuel, ""}, 0},
		{"1", `print(1 + 2, "a" + "b", @1 < 2)`, 4, wanted{api.EndFuel, ""}, 0},
		{"1", `print(1 + 2, "a" + "b", 1 < 2)`, 5, wanted{api.EndDone, "3 \"ab\" true\n"}, 0},
		{"2", "x := 1; x = x + 1; print(x)", 10, wanted{api.EndDone, "2\n"}, 0},
		{"2", "x := 1; x = x + 1; print(@x)", 9, wanted{api.EndFuel, ""}, 0},
		{"3", "var s []int; @s[0] = f()", 1000, wanted{api.EndIndex, ""}, -1},
		{"3", "var m map[int]int; @m[f()] = f()", 1000, wanted{api.EndNil, "1\n1\n"}, -1},
		{"4", "var p *t; @p.a = 1", 1000, wanted{api.EndNil, ""}, -1},
		{"4", "var x i; @x.m(f())", 1000, wanted{api.EndNil, ""}, -1},
		{"4", "var g func(int); @g(f())", 1000, wanted{api.EndNil, "1\n"}, -1},
		{"5", "var fs []func() int; for i := 0; i < 3; i++ { fs = append(fs, func() int { return i }) }; print(fs[0](), fs[2]())", 1000, wanted{api.EndDone, "0 2\n"}, -1},
		{"6", "s := make([]int, 2, 5); x := append(s, 7); u := append(s, 8); print(x[2], len(u))", 1000, wanted{api.EndDone, "8 3\n"}, -1},
		{"6", "s := make([]int, 2, 5); s = s[:5]; print(len(s)); s = @s[:6]", 1000, wanted{api.EndIndex, "5\n"}, -1},
		{"6", "s := make([]int, 1, 4611686018427387904); print(len(s))", 1000, wanted{api.EndDone, "1\n"}, -1},
		{"8", `m := map[string]int{"b": 1, "a": 2}; for k, v := range m { print(k, v); delete(m, "b") }`, 1000, wanted{api.EndDone, "\"a\" 2\n"}, -1},
		{"9", "switch x := 2; x { case 1: print(1); case 2: print(2); fallthrough; case 3: print(3); default: print(4) }", 1000, wanted{api.EndDone, "2\n3\n"}, -1},
		{"10", "a, b := 1, 2; a, b = b, a; print(a, b)", 1000, wanted{api.EndDone, "2 1\n"}, -1},
		{"10", "var x t = t{1}; y := x; y.a = 2; print(x.a, y.a); p := &x.a; x = y; print(*p)", 1000, wanted{api.EndDone, "1 2\n2\n"}, -1},
		{"10", "x, y := 1, -1; print(x << 70, y >> 70); print(@x << y)", 1000, wanted{api.EndShift, "0 -1\n"}, -1},
		{"10", "y := -1; print(@1 << y)", 1000, wanted{api.EndShift, ""}, -1},
		{"11", `@panic("x")`, 1000, wanted{api.EndPanic, ""}, -1},
		{"11", "var x e = 1; v, ok := x.(string); print(v, ok); print(@x.(string))", 1000, wanted{api.EndAssert, "\"\" false\n"}, -1},
	} {
		r := holds(t, "example "+c.number, mainly(world, c.block), c.fuel, c.want)
		if c.left >= 0 && r.Left != c.left {
			t.Errorf("example %s: %q: left %d, not %d", c.number, c.block, r.Left, c.left)
		}
	}
	holds(t, "example 7", mainly(recursive, "d(0)"), 4000, wanted{api.EndDeep, ""})
	m := eval.Begin(opened(t, mainly(world, "x := 1; x = x + 1; print(x)")))
	m.Go(3)
	if r, want := m.Go(2), eval.Run(opened(t, mainly(world, "x := 1; x = x + 1; print(x)")), 5); !sameRun(r, want) || r.End != api.EndFuel {
		t.Errorf("example 12: %v, not %v", r, want)
	}
}
