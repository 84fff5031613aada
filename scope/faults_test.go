package scope_test

import (
	"testing"

	"moniker/api"
)

// TestExamples: the chapter's examples.
func TestExamples(t *testing.T) {
	const iface = "\ntype i interface { }"
	refuse(t, []wrong{
		{alone("func f(a int) { a := 1 }"), api.ErrNew, "a", 2}, {alone("func f(a int) { { a := 1; print(a) } }"), api.OK, "", 0}, {alone("func f(a int) { var a int }"), api.ErrTwice, "a", 2}, {alone("func f(a, a int) { }"), api.ErrTwice, "a", 2},
		{alone("func f() { a, a := 1, 2 }"), api.ErrTwice, "a", 2}, {alone("func f() { a := 1; a, a := 2, 3 }"), api.ErrNew, "a", 2}, {alone("func f() { a := a }"), api.ErrUnknown, "a", 2}, {alone("func f() { var a = a }"), api.ErrUnknown, "a", 2}, {alone("func f() { type t *t }"), api.OK, "", 0},
		{alone("var x = y; var y = 1"), api.OK, "", 0}, {alone("func f() { x := y; y := 1 }"), api.ErrUnknown, "y", 1},
		{alone("func f() { if a := 1; a > 0 { } else if b := a; b > 0 { print(a, b) } }"), api.OK, "", 0}, {alone("func f() { if a := 1; a > 0 { }; print(a) }"), api.ErrUnknown, "a", 3},
		{alone("func f() { for a := 0; a < 1; a++ { a := a; print(a) } }"), api.OK, "", 0}, {alone("func f(s []int) { for i := range s[i:] { } }"), api.ErrUnknown, "i", 2},
		{alone("func f(x i) { switch v := x.(type) { case int: v := 1 } }" + iface), api.ErrNew, "v", 2}, {alone("func f(x i) { switch v := x.(type) { case int: v, w := 1, 2 } }" + iface), api.OK, "", 0}, {alone("func f(x i) { switch v := x.(type) { case int: var v int } }" + iface), api.ErrTwice, "v", 2}, {alone("func f(x i) { switch v := x.(type) { case int: { v := 1 } } }" + iface), api.OK, "", 0},
		{alone("func f() { L: for { break L; func() { break L }() } }"), api.ErrUnknown, "L", 3}, {alone("func f() { L: ; L: }"), api.ErrTwice, "L", 2}, {alone("func f() { L := 1; L: print(L) }"), api.OK, "", 0},
		{alone("const c = iota"), api.OK, "", 0}, {alone("var v = iota"), api.ErrUnknown, "iota", 1}, {alone("const d = len(func() int { return iota })"), api.OK, "", 0}, {alone("func iota() { }\nvar v = iota"), api.OK, "", 0},
		{alone("func main() int { }"), api.ErrSpecial, "main", 2}, {alone("func init() { }; func init() { }"), api.OK, "", 0}, {alone("func f() { init() }"), api.ErrUnknown, "init", 1}, {alone("func f() { init() }; func init() { }"), api.ErrUnknown, "init", 1}, {alone("type t struct { main int }"), api.ErrSpecial, "main", 2}, {alone("func f() { main := 1 }"), api.ErrSpecial, "main", 2}, {alone("func f() { main() }"), api.OK, "", 0},
		{alone("import \"x\"; var x int"), api.ErrTwice, "\"x\"", 1}, {alone("import \"x\"; func f() { x.G() }"), api.ErrUnknown, "G", 1}, {alone("import \"x\"; var v = x"), api.ErrUse, "x", 1}, {alone("import \"x\"; func f(x int) { x.F() }"), api.OK, "", 0},
		{alone("type t struct { a int; *u }; type u struct { b int }; var v = t{a: 1, q: 2}; var a int"), api.OK, "", 0},
	})
}

// TestExampleOfMembers: example 11, and the others' bindings.
func TestExampleOfMembers(t *testing.T) {
	p, s := resolved(t, alone("type t struct { a int; *u }; type u struct { b int }; var v = t{a: 1, q: 2}"))
	l := s.Decls()
	typ := s.Makes(where(p, "t", 1))
	for _, c := range []struct {
		word string
		want api.Decl
	}{{"a", api.Decl{Kind: api.DeclField, Name: "a", Of: typ}}, {"u", api.Decl{Kind: api.DeclEmbed, Name: "u", Of: typ}}, {"b", api.Decl{Kind: api.DeclField, Name: "b", Of: s.Makes(where(p, "u", 2))}}} {
		c.want.At = where(p, c.word, 1)
		if got := l[s.Makes(c.want.At)]; got != c.want {
			t.Errorf("9.2: %v, not %v", got, c.want)
		}
	}
	if s.Bound(where(p, "u", 1)) != s.Makes(where(p, "u", 2)) || s.Bound(where(p, "a", 2)) != -1 || s.Bound(where(p, "q", 1)) != -1 {
		t.Error("9.4: an embedded type, keys")
	}
	p, s = resolved(t, alone("type t struct { a int; *u }; type u struct { b int }; var v = t{a: 1, q: 2}; var a int"))
	if s.Bound(where(p, "a", 2)) != s.Makes(where(p, "a", 3)) || s.Makes(where(p, "a", 3)) < 0 || s.Bound(where(p, "q", 1)) != -1 {
		t.Error("9.4: the key a")
	}
	p, s = resolved(t, alone("import \"x\"; func f(x int) { x.F() }"))
	if s.Bound(where(p, "x", 2)) != s.Makes(where(p, "x", 1)) || s.Bound(where(p, "F", 1)) != -1 {
		t.Error("9.4: x is the parameter")
	}
	p, s = resolved(t, alone("func iota() { }; const c = iota"))
	if s.Bound(where(p, "iota", 2)) != s.Makes(where(p, "iota", 1)) {
		t.Error("9.4: iota")
	}
	p, s = resolved(t, alone("func f() { for a := 0; a < 1; a++ { a := a; print(a) } }"))
	if one, two := s.Makes(where(p, "a", 1)), s.Makes(where(p, "a", 4)); one == two || s.Bound(where(p, "a", 2)) != one || s.Bound(where(p, "a", 3)) != one || s.Bound(where(p, "a", 5)) != one || s.Bound(where(p, "a", 6)) != two {
		t.Error("9.4: two variables")
	}
}

// TestOuterFaults: what packages and files declare, each fault by itself, at its place.
func TestOuterFaults(t *testing.T) {
	refuse(t, []wrong{
		{alone("var a int; var a int"), api.ErrTwice, "a", 2}, {alone("const a = 1; type a int"), api.ErrTwice, "a", 2}, {alone("type a int; func a() { }"), api.ErrTwice, "a", 2}, {alone("func a() { }; const a = 1"), api.ErrTwice, "a", 2}, {alone("var a, b, a int"), api.ErrTwice, "a", 2}, {alone("const (a = 1; b = 2; a = 3)"), api.ErrTwice, "a", 2}, {alone("var _, _ int; func _() { }; func _() { }; type _ int; const _ = 1"), api.OK, "", 0},
		{files("a: package main; var a int", "b: package main; func a() { }"), api.ErrTwice, "a", 2}, {files("b: package main; func main() { }; var a int", "a: package main; func main() { }; var a int"), api.ErrTwice, "main", 4}, {files("a: package main; var a int", "x/a: package x; var a int"), api.OK, "", 0},
		{alone("func f() { }; func (t T) f() { }; type T int"), api.OK, "", 0}, {alone("var bool, int, print, nil, true, iota int"), api.OK, "", 0},
		{alone("var main int"), api.ErrSpecial, "main", 2}, {alone("func main() { }; var main int"), api.ErrTwice, "main", 3}, {alone("const main = 1; func main() { }"), api.ErrSpecial, "main", 2}, {alone("type main int; func main() { }"), api.ErrSpecial, "main", 2}, {alone("var init int"), api.ErrSpecial, "init", 1}, {alone("const init = 1"), api.ErrSpecial, "init", 1}, {alone("type init int"), api.ErrSpecial, "init", 1},
		{alone("func main(a int) { }"), api.ErrSpecial, "main", 2}, {alone("func main() (int) { }"), api.ErrSpecial, "main", 2}, {alone("func main() (int, int) { }"), api.ErrSpecial, "main", 2}, {alone("func init(a int) { }"), api.ErrSpecial, "init", 1}, {alone("func init() int { }"), api.ErrSpecial, "init", 1}, {alone("func init(_ int) { }"), api.ErrSpecial, "init", 1},
		{files("a: package main", "x/a: package x; func main() { }"), api.ErrSpecial, "main", 2}, {files("a: package main", "x/a: package x; func init() { }"), api.OK, "", 0}, {files("a: package main", "x/a: package x; var main int"), api.ErrSpecial, "main", 2}, {files("a: package main", "x/a: package init; func f() { }"), api.OK, "", 0},
		{alone("func init() { }; var init int"), api.ErrTwice, "init", 2}, {alone("var init int; func init() { }"), api.ErrSpecial, "init", 1}, {alone("func init() { }; func init() int { }"), api.ErrSpecial, "init", 2}, {alone("func init() { }; type init int; func init() { }"), api.ErrTwice, "init", 2}, {files("a: package main; func init() { }", "b: package main; func init() { }; func init() { }"), api.OK, "", 0},
	})
}

// TestImportFaults: imports against each other, against the package, by special names.
func TestImportFaults(t *testing.T) {
	refuse(t, []wrong{
		{alone("import \"x\"; import \"x\""), api.ErrTwice, "\"x\"", 2}, {alone("import (y \"x\"; y \"x\")"), api.ErrTwice, "y", 2}, {alone("import (\"x\"; x \"x\")"), api.ErrTwice, "x", 1}, {alone("import (x \"x\"; \"x\")"), api.ErrTwice, "\"x\"", 2}, {alone("import (\"x\"; y \"x\")"), api.OK, "", 0},
		{files("a: package main; import x \"y\"; import \"x\"", "x/a: package x", "y/a: package y"), api.ErrTwice, "\"x\"", 1}, {files("a: package main; import \"x\"; import \"y\"", "x/a: package z", "y/a: package z"), api.ErrTwice, "\"y\"", 1},
		{files("a: package main; import \"x\"", "b: package main; import \"x\"", "x/a: package x"), api.OK, "", 0}, {files("a: package main; import p \"x\"", "b: package main; import \"x\"; import q \"x\"", "x/a: package x"), api.OK, "", 0},
		{alone("import y \"x\"; func y() { }"), api.ErrTwice, "y", 1}, {alone("import \"x\"; type x int"), api.ErrTwice, "\"x\"", 1}, {alone("import \"x\"; const x = 1"), api.ErrTwice, "\"x\"", 1}, {files("a: package main; func x() { }", "b: package main; import \"x\"", "x/a: package x"), api.ErrTwice, "\"x\"", 1}, {files("a: package main; import \"x\"", "b: package main; var x int", "x/a: package x"), api.ErrTwice, "\"x\"", 1}, {files("a: package main; import z \"x\"", "x/a: package x; var z, x int"), api.OK, "", 0},
		{alone("import main \"x\""), api.ErrTwice, "main", 2}, {files("a: package main; import main \"x\"", "x/a: package x"), api.ErrSpecial, "main", 2}, {alone("import init \"x\""), api.ErrSpecial, "init", 1}, {alone("import init \"x\"; func init() { }"), api.ErrTwice, "init", 1}, {files("a: package main; import \"x\"", "x/a: package init"), api.ErrSpecial, "\"x\"", 1}, {files("x/a: package x; import \"\"", "a: package main"), api.ErrSpecial, "\"\"", 1}, {files("a: package main; import \"x\"; func init() { }", "x/a: package init"), api.ErrTwice, "\"x\"", 1}, {files("a: package main; import p \"x\"", "x/a: package init"), api.OK, "", 0},
		{alone("import int \"x\"; func f() { int.F() }"), api.OK, "", 0}, {alone("import int \"x\"; var v int"), api.ErrUse, "int", 2},
	})
}

// TestInnerFaults: names in functions, members and labels.
func TestInnerFaults(t *testing.T) {
	refuse(t, []wrong{
		{alone("func (a T) m(a int) { }; type T int"), api.ErrTwice, "a", 2}, {alone("func (a T) m() { var a int }; type T int"), api.ErrTwice, "a", 2}, {alone("func f(a int, b, a int) { }"), api.ErrTwice, "a", 2}, {alone("func f(_, _ int) { }"), api.OK, "", 0}, {alone("func f() { var a int; const a = 1 }"), api.ErrTwice, "a", 2}, {alone("func f() { type a int; var a int }"), api.ErrTwice, "a", 2}, {alone("func f() { a := 1; type a int }"), api.ErrTwice, "a", 2}, {alone("func f() { var a, b, a int }"), api.ErrTwice, "a", 2},
		{alone("func f() { { var a int }; var a int; { var a int } }"), api.OK, "", 0}, {alone("func f(a int) { func(a int) { }(a) }"), api.OK, "", 0}, {alone("var v = func(a, a int) { }"), api.ErrTwice, "a", 2}, {alone("var v = func(a int) { var a int }"), api.ErrTwice, "a", 2}, {alone("func f() { switch { case true: var a int; default: var a int } }"), api.OK, "", 0}, {alone("func f() { switch { case true: var a int; var a int } }"), api.ErrTwice, "a", 2}, {alone("func f() { L: var a int; var a int }"), api.ErrTwice, "a", 2},
		{alone("func f() { type t int; t := 1 }"), api.ErrTwice, "t", 2}, {alone("func f() { type t int; t, u := 1, 2 }"), api.ErrTwice, "t", 2}, {alone("func f() { const c = 1; c := 1 }"), api.ErrNew, "c", 2}, {alone("func f() { const c = 1; c, d := 1, 2 }"), api.OK, "", 0}, {alone("func f() { var a, b int; b, a := 1, 2 }"), api.ErrNew, "b", 2}, {alone("func f() { var a int; _, a := 1, 2 }"), api.ErrNew, "_", 1}, {alone("func f() { var a int; b, a, a := 1, 2, 3 }"), api.OK, "", 0}, {alone("func f() { _ := 1 }"), api.ErrNew, "_", 1}, {alone("func f() { _, _ := 1, 2 }"), api.ErrNew, "_", 1}, {alone("func f() { a := 1; var a int }"), api.ErrTwice, "a", 2}, {alone("func f() { a := 1; { a := 2 }; a, b := 3, 4 }"), api.OK, "", 0}, {alone("func f(a int) { if a := 1; true { } }"), api.OK, "", 0}, {alone("func f(a int) { for a := 1; ; { a := 2 } }"), api.OK, "", 0}, {alone("func f() { a, _, a := 1, 2, 3 }"), api.ErrTwice, "a", 2}, {alone("func (a T) m() { a := 1 }; type T int"), api.ErrNew, "a", 2}, {alone("func f() { L: a := 1; a := 2 }"), api.ErrNew, "a", 2}, {alone("func f() { if a, a := 1, 2; true { } }"), api.ErrTwice, "a", 2},
		{alone("func f() { for a, a := range 3 { } }"), api.ErrTwice, "a", 2}, {alone("func f(a int) { for a := range 3 { a := a } }"), api.OK, "", 0}, {alone("func f() { for _ := range 3 { } }"), api.OK, "", 0}, {alone("func f() { for _, _ := range 3 { } }"), api.OK, "", 0}, {alone("func f() { for a, b = range 3 { } }"), api.ErrUnknown, "a", 1}, {alone("func f(a int) { for a, a = range 3 { } }"), api.OK, "", 0},
		{alone("func f(x T) { switch v := x.(type) { case int: type v int } }; type T int"), api.ErrTwice, "v", 2}, {alone("func f(x T) { switch v := x.(type) { default: const v = 1 } }; type T int"), api.ErrTwice, "v", 2}, {alone("func f(x T) { switch v := 1; v := x.(type) { case int: print(v) } }; type T int"), api.OK, "", 0}, {alone("func f(x T) { switch x := x.(type) { case int: x, y := 1, 2; print(x, y) } }; type T int"), api.OK, "", 0}, {alone("func f(x T) { switch _ := x.(type) { case int: _ := 1 } }; type T int"), api.ErrNew, "_", 2},
		{alone("func f() { L: M: L: }"), api.ErrTwice, "L", 2}, {alone("func f() { L: { L: } }"), api.ErrTwice, "L", 2}, {alone("func f() { L: func() { L: }() }"), api.OK, "", 0}, {alone("func f() { L: }; func g() { L: }"), api.OK, "", 0}, {alone("func f() { _: _: }"), api.OK, "", 0},
		{alone("func f(main int) { }"), api.ErrSpecial, "main", 2}, {alone("func (init T) m() { }; type T int"), api.ErrSpecial, "init", 1}, {alone("func f() { var init int }"), api.ErrSpecial, "init", 1}, {alone("func f() { const main = 1 }"), api.ErrSpecial, "main", 2}, {alone("func f() { type main int }"), api.ErrSpecial, "main", 2}, {alone("func f() { for main := range 1 { } }"), api.ErrSpecial, "main", 2}, {alone("func f() { for init := 1; ; { } }"), api.ErrSpecial, "init", 1}, {alone("func f(x int) { switch main := x.(type) { } }"), api.ErrSpecial, "main", 2}, {alone("func f() { a, init := 1, 2 }"), api.ErrSpecial, "init", 1}, {alone("func f() { main: }"), api.ErrSpecial, "main", 2}, {alone("func f() { init: for { break init } }"), api.ErrSpecial, "init", 1}, {alone("var v = func(init int) { }"), api.ErrSpecial, "init", 1},
		{alone("type t struct { a, init int }"), api.ErrSpecial, "init", 1}, {alone("type t interface { main() }"), api.ErrSpecial, "main", 2}, {alone("func (t T) init() { }; type T int"), api.ErrSpecial, "init", 1}, {alone("func (t *T) main() { }; type T int"), api.ErrSpecial, "main", 2}, {alone("type t struct { main }"), api.ErrSpecial, "main", 2}, {alone("type t struct { *init }"), api.ErrSpecial, "init", 1}, {alone("import \"x\"; type t struct { x.init }"), api.ErrSpecial, "init", 1}, {alone("type t interface { main }"), api.OK, "", 0}, {alone("type t interface { init }"), api.ErrUnknown, "init", 1}, {alone("func f() { type t struct { main int } }"), api.ErrSpecial, "main", 2}, {alone("type _ struct { init int }"), api.ErrSpecial, "init", 1},
	})
}

// TestUseFaults: names that nothing declares, and imports that stand alone.
func TestUseFaults(t *testing.T) {
	refuse(t, []wrong{
		{alone("var v = z"), api.ErrUnknown, "z", 1}, {alone("var v z"), api.ErrUnknown, "z", 1}, {alone("type t z"), api.ErrUnknown, "z", 1}, {alone("func f(a z) { }"), api.ErrUnknown, "z", 1}, {alone("func f() z { }"), api.ErrUnknown, "z", 1}, {alone("func (r z) m() { }"), api.ErrUnknown, "z", 1}, {alone("func (r *z) m() { }"), api.ErrUnknown, "z", 1}, {alone("type t struct { z }"), api.ErrUnknown, "z", 1}, {alone("type t struct { a z }"), api.ErrUnknown, "z", 1}, {alone("type t interface { z }"), api.ErrUnknown, "z", 1}, {alone("type t interface { m(z) }"), api.ErrUnknown, "z", 1}, {alone("var v = z.a"), api.ErrUnknown, "z", 1}, {alone("var v = z{a: 1}"), api.ErrUnknown, "z", 1}, {alone("type t struct { a int }; var v = t{a: z}"), api.ErrUnknown, "z", 1}, {alone("type t struct { a int }; var v = t{(z): 1}"), api.ErrUnknown, "z", 1}, {alone("type t struct { a int }; var v = t{z.a: 1}"), api.ErrUnknown, "z", 1}, {alone("func f() { z = 1 }"), api.ErrUnknown, "z", 1}, {alone("func f() { z++ }"), api.ErrUnknown, "z", 1}, {alone("func f() { z: break z; z() }"), api.ErrUnknown, "z", 3}, {alone("const c z = 1"), api.ErrUnknown, "z", 1}, {alone("var v = z.(int)"), api.ErrUnknown, "z", 1}, {alone("func f(a int) { switch a.(type) { case z: } }"), api.ErrUnknown, "z", 1}, {alone("func f(a int, b a) { }"), api.ErrUnknown, "a", 2}, {alone("func f(a int) a { }"), api.ErrUnknown, "a", 2}, {alone("func (a T) m(b a) { }; type T int"), api.ErrUnknown, "a", 2},
		{alone("func f() { break z }"), api.ErrUnknown, "z", 1}, {alone("func f() { for { continue z } }"), api.ErrUnknown, "z", 1}, {alone("func f() { break _; continue _ }"), api.OK, "", 0}, {alone("func f() { for { break z }; z: for { } }"), api.OK, "", 0}, {alone("func f(z int) { break z }"), api.ErrUnknown, "z", 2}, {alone("func f() { func() { z: }(); break z }"), api.ErrUnknown, "z", 2}, {alone("func g() { z: }; func f() { break z }"), api.ErrUnknown, "z", 2},
		{alone("var v = iota"), api.ErrUnknown, "iota", 1}, {alone("const c iota = 1"), api.ErrUnknown, "iota", 1}, {alone("const c = 1; var v = iota"), api.ErrUnknown, "iota", 1}, {alone("func f() { const c = iota; print(iota) }"), api.ErrUnknown, "iota", 2}, {alone("const (a = iota; b; c = iota)"), api.OK, "", 0}, {alone("func f() { var iota int; print(iota) }"), api.OK, "", 0}, {alone("const a = func() { const b = 1; print(iota) }"), api.OK, "", 0},
		{alone("func f() { type t u; type u int }"), api.ErrUnknown, "u", 1}, {alone("func f() { const a, b = 1, a }"), api.ErrUnknown, "a", 2}, {alone("func f() { var (a = 1; b = a) }"), api.OK, "", 0}, {alone("func f() { var a = func() { a() } }"), api.ErrUnknown, "a", 2}, {alone("func f() { a := func() { a() } }"), api.ErrUnknown, "a", 2}, {alone("func f() { switch a := 1; a { case a: print(a) }; print(a) }"), api.ErrUnknown, "a", 5}, {alone("func f(x int) { switch v := x.(type) { case v: } }"), api.ErrUnknown, "v", 2}, {alone("func f(x int) { switch v := v.(type) { } }"), api.ErrUnknown, "v", 2}, {alone("func f(x int) { switch v := x.(type) { default: }; print(v) }"), api.ErrUnknown, "v", 2}, {alone("func f() { for i := range 3 { }; print(i) }"), api.ErrUnknown, "i", 2}, {alone("func f() { switch { case true: a := 1; case false: print(a) } }"), api.ErrUnknown, "a", 2},
		{alone("import \"x\"; var v = x"), api.ErrUse, "x", 1}, {alone("import \"x\"; var v = (x).F"), api.ErrUse, "x", 1}, {alone("import \"x\"; var v x"), api.ErrUse, "x", 1}, {alone("import \"x\"; type t struct { x }"), api.ErrUse, "x", 1}, {alone("import \"x\"; type t struct { a int }; var v = t{x: 1}"), api.OK, "", 0}, {alone("import \"x\"; type t struct { a int }; var v = t{(x): 1}"), api.ErrUse, "x", 1}, {alone("import \"x\"; type t struct { a int }; var v = t{x.F: 1, a: x.F}"), api.OK, "", 0}, {alone("import \"x\"; func (r x) m() { }"), api.ErrUse, "x", 1}, {alone("import \"x\"; func f() { x() }"), api.ErrUse, "x", 1}, {alone("import \"x\"; func f() { x := x }"), api.ErrUse, "x", 2}, {alone("import \"x\"; func f() { x: break x }"), api.OK, "", 0}, {alone("import y \"x\"; var v = x.F"), api.ErrUnknown, "x", 1}, {files("a: package main; import \"x\"", "b: package main; var v = x.F", "x/a: package x; func F() { }"), api.ErrUnknown, "x", 1},
		{alone("import \"x\"; var v = x.init"), api.ErrUnknown, "init", 1}, {alone("import \"x\"; var v = x.m"), api.ErrUnknown, "m", 1}, {alone("import \"x\"; var v = x.x"), api.ErrUnknown, "x", 2}, {alone("import \"x\"; var v = x.print"), api.ErrUnknown, "print", 1}, {alone("import \"x\"; var v = x._"), api.OK, "", 0}, {alone("import \"x\"; var v = x.F.z.y"), api.OK, "", 0}, {alone("import \"x\"; var v = x.z.F"), api.ErrUnknown, "z", 1}, {alone("import \"x\"; type t struct { x.T; *x.W }"), api.OK, "", 0}, {files("a: package main; import \"x\"; var v = x.y", "x/a: package x; import \"y\"", "y/a: package y"), api.ErrUnknown, "y", 1}, {files("a: package none; import x \"x\"; var v = x.main", "x/a: package main; func main() { }"), api.OK, "", 0},
	})
}

// TestFirstFault: which of two comes first: packages in their order, what packages declare ahead of all else, files, places.
func TestFirstFault(t *testing.T) {
	refuse(t, []wrong{
		{alone("var v = z; var v int"), api.ErrTwice, "v", 2}, {alone("func f(a, a int) { }; var f int"), api.ErrTwice, "f", 2}, {alone("var v = z; func init() int { }"), api.ErrSpecial, "init", 1}, {alone("import \"x\"; var v = z; var x int"), api.ErrTwice, "\"x\"", 1}, {alone("var v = z; var w = y"), api.ErrUnknown, "z", 1},
		{files("a: package main; var v = z", "b: package main; var v int"), api.ErrTwice, "v", 2}, {files("a: package main; var v = z; var w int", "b: package main; var init int; var w int"), api.ErrSpecial, "init", 1}, {files("b: package main; var v = z", "a: package main; var w = y"), api.ErrUnknown, "z", 1}, {files("a: package main; var v = z", "b: package main; import init \"x\"", "x/a: package x"), api.ErrSpecial, "init", 1}, {files("a: package main; var v = z", "b: package main; import (\"x\"; x \"x\")", "x/a: package x"), api.ErrTwice, "x", 1},
		{files("a: package main; import \"x\"; var v, v = z, x.y", "x/a: package x; var w = y"), api.ErrUnknown, "y", 2}, {files("a: package main; var v, v int", "x/a: package x; var w = y"), api.ErrTwice, "v", 2}, {files("x/a: package x; var w = y", "a: package main; var v, v int"), api.ErrUnknown, "y", 1}, {files("x/a: package x; import \"y\"; var w = z", "a: package main; var v, v int", "y/a: package y; var u u2"), api.ErrTwice, "v", 2}, {files("x/a: package x; import \"y\"; var w = z", "y/a: package y; var u u2", "a: package main; var v, v int"), api.ErrUnknown, "u2", 1},
		{alone("func f(a int) { z := a.b; a, a := 1, z }"), api.ErrNew, "a", 3}, {alone("func f(a, main, a int) { }"), api.ErrSpecial, "main", 2}, {alone("func f(a, a, main int) { }"), api.ErrTwice, "a", 2}, {alone("func f(a z, a int) { }"), api.ErrUnknown, "z", 1}, {alone("func f(a int) { a := z }"), api.ErrNew, "a", 2}, {alone("func f() { b, b := z, 1 }"), api.ErrTwice, "b", 2}, {alone("func f() { print(z); L: L: }"), api.ErrUnknown, "z", 1}, {alone("func f() { L: L: ; print(z) }"), api.ErrTwice, "L", 2}, {alone("func f() { break z; main: }"), api.ErrUnknown, "z", 1}, {alone("import \"x\"; func f() { print(x, z) }"), api.ErrUse, "x", 1}, {alone("import \"x\"; func f() { print(z, x) }"), api.ErrUnknown, "z", 1}, {alone("func (r z) main() { }"), api.ErrUnknown, "z", 1}, {alone("func (main z) m() { }"), api.ErrSpecial, "main", 2},
		{alone("import \"x\"; type init struct { x.init }"), api.ErrSpecial, "init", 1}, {alone("func f() { type init int; init := 1 }"), api.ErrSpecial, "init", 1}, {alone("func f(x int) { switch v := x.(type) { case int: var v z } }"), api.ErrTwice, "v", 2}, {alone("func f(x int) { switch v := func(a, a int) { }.(type) { } }"), api.ErrTwice, "a", 2}, {alone("func f(x int) { switch v := func() { a := 1; print(a) }.(type) { } }"), api.OK, "", 0},
	})
}
