package flow_test

import (
	"strings"
	"testing"

	"moniker/api"
	"moniker/flow"
)

// TestExamples: those of the chapter.
func TestExamples(t *testing.T) {
	refuse(t, []wrong{
		{"func f() int { for { } }", api.OK}, {"func f() int { for { break } @}", api.ErrReturn}, {"func f() int { L: for { for { break L } } @}", api.ErrReturn}, {"func f() int { for { func() { for { break } }() } }", api.OK}, {`func f() int { switch { case true: fallthrough; default: panic("x") } }`, api.OK}, {"func f() int { if true { return 1 } @}", api.ErrReturn},
		{"func f() { @break }", api.ErrLabel}, {"func f() { L: if true { break @L } }", api.ErrLabel}, {"func f() { @L: for { } }", api.ErrUnused}, {"func f() { L: M: for { break M; continue @L } }", api.ErrLabel}, {"func f() { @x := 1; x = 2 }", api.ErrUnused}, {"func f() { x := 1; x++ }", api.OK}, {"func f() { @a := 1; _ = T{a: 2} }", api.ErrUnused}, {"func f(a int) { }", api.OK},
	})
}

// TestEnds: each row of L2, and what is like it and does not end (0.9).
func TestEnds(t *testing.T) {
	var all []wrong
	for _, body := range []string{
		"return 1", "return", "return; ;", "{ return }", "{ { return; }; }", "; ; return", "print(); return",
		"panic(1)", "panic()", "panic(1); ;",
		"if true { return } else { panic(1) }", "if true { return } else if false { return } else { return }", "if a := 1; a > 0 { return } else { return }",
		"for { }", "for ; ; { }", "for a := 1; ; a++ { }", "for { continue }", "for { for { break } }", "for { switch { default: break } }", "for { for range 3 { break } }", "for { switch outer.(type) { default: break } }", "for { L: for { break L } }", "L: for { continue L }", "for { _ = func() { for { break } } }", "L: for { L2: for { break L2 }; continue L }",
		"switch { default: return }", "switch { case true: return; default: return }", "switch { default: return; case true: panic(1) }", "switch { case true: fallthrough; default: return }", "switch { case true: fallthrough; ; default: return }", "switch { default: fallthrough; case true: return }", "switch 1 { default: for { break }; return }", "switch a := 1; a { default: return }", "switch outer.(type) { default: return }", "switch outer.(type) { case int: panic(1); default: return }", "switch { default: fallthrough }", "switch outer.(type) { default: fallthrough }", "switch { default: L: for { break L }; return }",
		"_: return", "_: { return }", "_: _: return",
	} {
		all = append(all, wrong{"func f() int { " + body + " }; var outer I", api.OK})
	}
	for _, body := range []string{
		"", ";", "print()", "return; print()", "{ }", "{ return }; { }", "1", "x.C",
		"(panic)(1)", "(panic(1))", "panic", "{ panic := f; panic() }", "print(panic(1))", "_ = func() { panic(1) }",
		"if true { return }", "if true { return } else { }", "if true { } else { return }", "if true { return } else if true { return }",
		"for true { }", "for ; true; { }", "for range 3 { }", "for { break }", "for { if true { break } }", "for { { break } }", "for { if true { } else { break }; return }", "for { switch { default: for { break }; return }; break }", "L: for { for { break L } }", "L: for { switch { default: break L } }", "L: for { M: for { continue M }; break L }", "for { return }; print()", "L: for { break L }",
		"switch { }", "switch { case true: return }", "switch { default: }", "switch { default: return; case true: }", "switch { default: break; return }", "switch { default: if true { break }; return }", "L: switch { default: for { break L } }", "switch { default: return; case true: break }", "switch outer.(type) { case int: return }", "switch outer.(type) { default: break }", "switch { case true: fallthrough; print(); default: return }", "switch { case true: { fallthrough }; default: return }", "L: switch outer.(type) { default: switch { default: break L }; return }",
		"_: print()", "_:",
	} {
		all = append(all, wrong{"func f() int { " + body + " @}; var outer I", api.ErrReturn})
	}
	refuse(t, all)
	x := opened(t, files("a: package main; func f() int { L: for { break L }; L2: { return 1 }; L3: return 2; for { }; if true { } }"))
	w := newWords(x)
	found := 0
	for n, k := range w.pages[0].tree.Nodes {
		if got := flow.Ends(x.p, x.s, 0, n); got != w.ends(0, n) {
			t.Errorf("L2: node %d of kind %d: %t", n, k.Kind, got)
		} else if got {
			found++
		}
	}
	if found != 6 {
		t.Errorf("L2: %d nodes end", found)
	}
}

// TestLabels: L3 and the first faults of L4.
func TestLabels(t *testing.T) {
	refuse(t, []wrong{
		{"func f() { for { break; continue } }", api.OK}, {"func f() { for range 3 { break; continue } }", api.OK}, {"func f() { switch { case true: break } }", api.OK}, {"func f(i I) { switch i.(type) { case int: break } }", api.OK}, {"func f() { for { switch { default: continue } } }", api.OK}, {"func f() { if true { for { if true { break } } } }", api.OK},
		{"func f() { @continue }", api.ErrLabel}, {"func f() { if true { @break } }", api.ErrLabel}, {"func f() { { @break } }", api.ErrLabel}, {"func f() { switch { default: @continue } }", api.ErrLabel}, {"func f(i I) { switch i.(type) { default: @continue } }", api.ErrLabel}, {"func f() { for { func() { @break }() } }", api.ErrLabel}, {"func f() { for { func() { for { }; @continue }() } }", api.ErrLabel}, {"func f() { for { }; @break }", api.ErrLabel},
		{"func f() { L: for { break L; continue L } }", api.OK}, {"func f() { L: for range 3 { for { continue L } } }", api.OK}, {"func f() { L: switch { default: for { break L } } }", api.OK}, {"func f() { L: switch { default: for { continue @L } } }", api.ErrLabel}, {"func f(i I) { L: switch i.(type) { default: break L } }", api.OK}, {"func f(i I) { L: switch i.(type) { default: for { continue @L } } }", api.ErrLabel}, {"func f() { L: { break @L } }", api.ErrLabel}, {"func f() { L: for { }; for { break @L } }", api.ErrLabel}, {"func f() { for { break @L }; L: for { } }", api.ErrLabel}, {"func f() { for { break @_ } }", api.ErrLabel}, {"func f() { _: for { continue @_ } }", api.ErrLabel}, {"func f() { L: _: for { break @L } }", api.ErrLabel}, {"func f() { _: L: for { break L } }", api.OK}, {"func f() { L: ; for { break @L } }", api.ErrLabel}, {"func f() { L: for { M: for { break L; continue M } } }", api.OK}, {"func f() { L: for { L2: switch { default: break L2; continue L } } }", api.OK}, {"func f() { L: for { break/* c */L } }", api.OK}, {"func f() { L: if true { break /* c */ @L } }", api.ErrLabel},
		{"func f() { x := func() int { }; for { break @_ } }", api.ErrLabel}, {"func f() int { x := 1; func() { @break }(); continue }", api.ErrLabel},
		{"func f() int { x := 1 @}", api.ErrReturn}, {"func f() int { g := func() int { @}; g() }", api.ErrReturn}, {"func f() int { return func() int { @}() }", api.ErrReturn}, {"func f() { g := func() { return func() int { @} }; g() }", api.ErrReturn}, {"func f() (int, string) { @}", api.ErrReturn}, {"func f() { }", api.OK}, {"func (t T) f() int { @}", api.ErrReturn}, {"func (t *T) f() int { return 1 }", api.OK}, {"var v = func() int { @}", api.ErrReturn}, {"var v = func() { L: for { break L } }", api.OK}, {"var v = func() { @w := 1 }", api.ErrUnused},
		{"func f() { for { @L: for { break } } }", api.ErrUnused}, {"func f() { _: for { } }", api.OK}, {"func f() { L: for { break L }; @M: ; }", api.ErrUnused}, {"func f() { func() { @L: for { } }() }", api.ErrUnused}, {"func f() { L: for { continue L } }", api.OK}, {"func f() { L := 1; print(L); @L: }", api.ErrUnused},
	})
}

// TestUnused: L5.
func TestUnused(t *testing.T) {
	refuse(t, []wrong{
		{"func f() { var @x int }", api.ErrUnused}, {"func f() { var x, @y = 1, 2; print(x) }", api.ErrUnused}, {"func f() { @x, y := 1, 2; print(y) }", api.ErrUnused}, {"func f() { for @i := range 3 { } }", api.ErrUnused}, {"func f() { for i, @v := range 3 { print(i) } }", api.ErrUnused}, {"func f(i I) { switch @x := i.(type) { } }", api.ErrUnused}, {"func f(i I) { switch @x := i.(type) { case int: x = 1 } }", api.ErrUnused}, {"func f(i I) { switch x := i.(type) { case int: default: print(x) } }", api.OK}, {"func f(i I) { switch @a := 1; x := i.(type) { } }", api.ErrUnused}, {"func f(i I) { switch a := 1; @x := i.(type) { case int: print(a) } }", api.ErrUnused}, {"func f() { if @x := 1; true { } }", api.ErrUnused}, {"func f() { const c = 1; type t int }", api.OK}, {"func f(a int) { a = 1 }", api.OK}, {"func (r T) f() { }", api.OK}, {"func f() { _ = func(a int) { } }", api.OK},
		{"func f() { var _ = 1 }", api.OK}, {"func f() { for _, _ := range 3 { } }", api.OK},
		{"func f() { @x := 1; x = 2; (x) = 3; ((x)) = 4 }", api.ErrUnused}, {"func f() { @x := 1; x, y := 2, 3; print(y) }", api.ErrUnused}, {"func f() { @x := 1; _, x = 2, 3 }", api.ErrUnused}, {"func f() { x := 1; x = x }", api.OK}, {"func f() { x := 1; x += 2 }", api.OK}, {"func f() { x := 1; (x) <<= 2 }", api.OK}, {"func f() { x := 1; x-- }", api.OK}, {"func f() { x := 1; x.a = 2 }", api.OK}, {"func f() { x := 1; x[0] = 2 }", api.OK}, {"func f() { x := 1; *x = 2 }", api.OK}, {"func f() { x := 1; (*x) = 2 }", api.OK}, {"func f() { x := 1; _ = &x }", api.OK}, {"func f() { x := 1; for x = range 3 { } }", api.OK}, {"func f() { x := 1; for (x) = range 3 { } }", api.OK}, {"func f() { x := 1; _ = x }", api.OK}, {"func f() { x := 1; y := x; _ = y }", api.OK}, {"func f() { @x := 1; func() { x = 2 }() }", api.ErrUnused}, {"func f() { x := 1; func() { print(x) }() }", api.OK}, {"func f() { @x := 1; { x := 2; print(x) } }", api.ErrUnused}, {"func f() { x := 1; { @x := x } }", api.ErrUnused}, {"func f() { x := 1; x = 2; const c = x }", api.OK},
		{"func f() { @a := 1; _ = T{a: 2, U: U{}} }", api.ErrUnused}, {"func f() { a := 1; _ = T{a: a} }", api.OK}, {"func f() { a := 1; _ = T{(a): 2} }", api.OK}, {"func f() { a := 1; _ = T{a} }", api.OK}, {"func f() { a := 1; _ = M{a: 2} }", api.OK}, {"func f() { a := 1; _ = []int{a: 2} }", api.OK}, {"func f() { @a := 1; _ = []T{T{a: 2}} }", api.ErrUnused}, {"func f() { a := 1; _ = T{a.b: 2} }", api.OK}, {"func f() { @a := 1; _ = x.T{a: 2} }", api.ErrUnused}, {"func f() { a := 1; _ = I{a: 2} }", api.OK}, {"func f() { @a := 1; type V struct { a int }; _ = V{a: 2} }", api.ErrUnused}, {"func f() { a := 1; type W []T; _ = W{a: nil} }", api.OK}, {"func f() { @b := 1; _ = T{b: 2} }", api.ErrUnused}, {"func f() { a, @b := 1, 2; b = a }", api.ErrUnused}, {"func f() { a := 1; _ = a.b; b := a; _ = T{b: 1}.b; print(b) }", api.OK}, {"func f() { @b := 1; print(1.b) }", api.ErrUnused},
	})
}

// TestImports: L6.
func TestImports(t *testing.T) {
	const other = "x/b: package x; import \"y\"; const C = y.D; type T struct { a int }"
	for _, lines := range []string{
		"import @\"x\"", "import @z \"x\"", "import (\"x\"; @z \"x\"); var v = x.C", "import (@\"x\"; z \"x\"); var v = z.C", "import \"x\"; var v = x.C", "import @\"x\"; func f(x int) { print(x) }", "import @\"x\"; func f() { x := 1; print(x.C) }", "import \"x\"; func f() { print(x.C); x := 1; print(x) }", "import @\"x\"; type S struct { x int }; var v = S{x: 1}", "import \"x\"; type S map[string]int; var v = S{x: 1}", "import \"x\"; var v x.T", "import \"x\"; type S struct { x.T }", "import \"x\"; func f(a *x.T) { }", "import (@\"x\"; z \"x\")", "import z \"x\"; import @\"y\"; var v = z.C", "import @y \"x\"; import x \"y\"; var v = x.D", "import y \"x\"; import @x \"y\"; var v = y.C",
	} {
		want := api.Fault{}
		if at := strings.Index(lines, "@"); at >= 0 {
			want = api.Fault{Why: api.ErrUnused, File: 1, At: len("package main; ") + at}
			lines = lines[:at] + lines[at+1:]
		}
		x := opened(t, files("y/c: package y; const D = 1", "a: package main; "+lines, other, "b: package main; import (\"x\"); var w = x.C"))
		main := x.p.Pack(1)
		if got := flow.Imports(x.p, x.s, x.t, main); got != want {
			t.Errorf("L6: %s: %v, not %v", lines, got, want)
		}
		if got := newWords(x).imports(main); got != want {
			t.Errorf("L6: %s: the words say %v, not %v", lines, got, want)
		}
		for _, pack := range []int{x.p.Pack(0), x.p.Pack(2)} {
			if got := flow.Imports(x.p, x.s, x.t, pack); got != (api.Fault{}) {
				t.Errorf("L6: %s: package %d: %v", lines, pack, got)
			}
		}
	}
	x := opened(t, files("a: package main; import \"x\"; var v = x.C", "b: package main; import \"x\"", "x/b: package x; const C = 1"))
	if got := flow.Imports(x.p, x.s, x.t, 0); got != (api.Fault{Why: api.ErrUnused, File: 1, At: 21}) {
		t.Errorf("L6: in the second file: %v", got)
	}
}
