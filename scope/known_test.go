package scope_test

import (
	"slices"
	"testing"

	"moniker/api"
	"moniker/scope"
)

// TestKnown: each row of the chapter's table. The declaration is the one that the name behind /*!*/ makes; it is known at the tokens between /*<*/ and /*>*/ (of which there may be several), and at no other (9.5).
func TestKnown(t *testing.T) {
	for _, lines := range []string{
		"func (/*!*/r T) m(b int) int /*<*/{ { print(r) } }/*>*/; type T int; var v int", "func f(/*!*/a int, b a) a /*<*/{ }/*>*/; type a int", "func f(b, /*!*/a int) /*<*/{ a = 1 }/*>*/; type a int", "var v = func(/*!*/a int) /*<*/{ }/*>*/, 1",
		"func f() { print(); var /*!*/a, b int/*<*/; { print(a) } }/*>*/; var v int", "func f() { var (b = 1; /*!*/a int = b/*<*/; c = a); print(c) }/*>*/; var v int", "func f() { const /*!*/a = 1/*<*/; }/*>*/; var v int", "func f() { { var /*!*/a = func() { }/*<*/; print() }/*>*/; print() }", "func f() { switch { case true: var /*!*/a int/*<*/; print(); /*>*/default: print() } }", "func f() { switch { default: const /*!*/a = 1/*<*/; /*>*/} }", "func f() { switch { default: const /*!*/a = 1/*<*//*>*/ } }", "var v = func() { var /*!*/a int/*<*/; print() }/*>*/; var w int", "func f() { L: var /*!*/a int/*<*/;\nprint() }/*>*/; var v int",
		"func f() { print(); type /*<*//*!*/a struct { b *a }; { print() } }/*>*/; var v int", "func f() { type (b int; /*<*//*!*/a b; c a) }/*>*/; var v int", "func f() { for { type /*<*//*!*/a int }/*>*/; print() }", "func f() { switch { case true: type /*<*//*!*/a int; /*>*/case false: } }",
		"func f() { print(); /*!*/a := print/*<*/; { print(a) } }/*>*/; var v int", "func f() { b, /*!*/a := 1, func() { }/*<*/ }/*>*/; var v int", "func f() { if /*!*/a := 1/*<*/; a > 0 { b := 2 } else if b := a; true { print(b) } else { }/*>*/; print() }", "func f() { for /*!*/a := 0/*<*/; a < 1; a++ { a = 2 }/*>*/; print() }", "func f() { switch /*!*/a := 1/*<*/; a { case a: print(a); default: }/*>*/; print() }", "func f() { switch /*!*/a := 1/*<*/; b := a.(type) { case int: print(b) }/*>*/; print() }", "func f() { switch { case true: /*!*/a := 1/*<*/; print(); /*>*/default: print() } }", "func f() { if true { } else if /*!*/a := 1/*<*/; true { } else { }/*>*/ }",
		"func f() { print(); for /*!*/a := range 3 /*<*/{ { print(a) } }/*>*/; print() }", "func f() { for b, /*!*/a := range func() { } /*<*/{ }/*>*/ }",
		"func f(x T) { switch /*!*/a := x.(type) { case int: /*<*/print(a); { } ; /*>*/case bool, string: case T: /*<*/print()\n/*>*/default: /*<*/a = 1; /*>*/} }; type T int", "func f(x T) { switch /*!*/a := x.(type) { }; print() }; type T int", "func f(x T) { switch /*!*/a := x.(type) { case T: } }; type T int", "func f(x T) { switch /*!*/a := x.(type) { default: /*<*/print()/*>*/ } }; type T int",
		"func f() { /*!*/a: for { break a } }", "type T struct { /*!*/a int }", "type T struct { /*!*/U }; type U int", "type T interface { /*!*/a() }", "func (r T) /*!*/a() { }; type T int",
	} {
		given := alone(lines)
		p, s := resolved(t, given)
		decl, isKnown := -1, false
		l := p.Tokens(0)
		var at []int
		for k, x := range l {
			text := given[0].Text[x.From:x.To]
			switch {
			case text == "/*!*/":
				decl = s.Makes(api.Place{Token: k + 1})
			case text == "/*<*/":
				isKnown = true
			case text == "/*>*/":
				isKnown = false
			case isKnown && x.Kind != api.TokBlanks && x.Kind != api.TokNote:
				at = append(at, k)
			}
		}
		if decl < 0 {
			t.Fatalf("9.3: %q makes nothing", lines)
		}
		for k := range l {
			if got := slices.Contains(s.Known(api.Place{Token: k}), decl); got != slices.Contains(at, k) {
				t.Errorf("9.5: %q: at piece %d (%q): %t", lines, k, given[0].Text[l[k].From:l[k].To], got)
			}
		}
	}
}

// knownJustIn asks whether a declaration (by the token that makes it, else by its name) is known at all tokens of some files, and nowhere else.
func knownJustIn(t *testing.T, given []api.File, word string, n int, in ...int) {
	t.Helper()
	p, s := resolved(t, given)
	decl := s.Makes(where(p, word, n))
	if decl < 0 {
		decl = slices.IndexFunc(s.Decls(), func(d api.Decl) bool { return d.Name == word && d.Kind != api.DeclPackage })
	}
	for i := range given {
		for k, x := range p.Tokens(i) {
			isToken := x.Kind != api.TokBlanks && x.Kind != api.TokNote
			if got := slices.Contains(s.Known(api.Place{File: i, Token: k}), decl); got != (isToken && slices.Contains(in, i)) {
				t.Errorf("9.5: %q: %s (%d) in file %d at piece %d: %t", given, word, decl, i, k, got)
			}
		}
	}
}

// TestKnownOutside: the rows of the universe, of packages and of imports; init, main, packages' names.
func TestKnownOutside(t *testing.T) {
	given := func() []api.File {
		return files("a: package main // c\nimport \"x\"\nimport p \"y\"; func init() { }\nvar v = x.V", "x/a: package x; import \"y\"; var V, v int", "b: package main; func main() { }; type T struct { }; const c = 1; func f() { print() }", "y/a: package z; func init() { }")
	}
	for _, name := range []string{"bool", "int", "string", "true", "false", "nil", "append", "copy", "delete", "len", "make", "new", "panic", "print"} {
		knownJustIn(t, given(), name, 99, 0, 1, 2, 3)
	}
	knownJustIn(t, given(), "main", 3, 0, 2)
	knownJustIn(t, given(), "v", 1, 0, 2)
	knownJustIn(t, given(), "T", 1, 0, 2)
	knownJustIn(t, given(), "c", 1, 0, 2)
	knownJustIn(t, given(), "f", 1, 0, 2)
	knownJustIn(t, given(), "V", 2, 1)
	knownJustIn(t, given(), "v", 2, 1)
	knownJustIn(t, given(), "p", 1, 0)
	knownJustIn(t, given(), "x", 99, 0)
	knownJustIn(t, given(), "z", 99, 1)
	knownJustIn(t, given(), "init", 1)
	knownJustIn(t, given(), "init", 2)
	knownJustIn(t, given(), "main", 1)
	knownJustIn(t, given(), "z", 1)
}

// TestKnownIota: iota is known in the lists of expressions of ConstSpecs, as long as nothing hides it.
func TestKnownIota(t *testing.T) {
	for _, lines := range []string{
		"const c = /*<*/iota/*>*/; var v int", "const c, d int = /*<*/1, iota + 2/*>*/; var v = 1", "const (a = /*<*/iota/*>*/; b; c, d = /*<*/1, 2/*>*/)", "func f() { const a = /*<*/func() { const b = iota + 1; print(b) }/*>*/; print() }", "const a = /*<*/func() { const b, c = 1, func() { const d = 1 }; const e = 1 }, 1/*>*/; const g = /*<*/1/*>*/; var v int", "const a = /*<*/func(a int) { }/*>*/; var v int",
	} {
		given := alone(lines)
		p, s := resolved(t, given)
		isKnown := false
		for k, x := range p.Tokens(0) {
			switch given[0].Text[x.From:x.To] {
			case "/*<*/":
				isKnown = true
			case "/*>*/":
				isKnown = false
			default:
				isToken := x.Kind != api.TokBlanks && x.Kind != api.TokNote
				if got := slices.Contains(s.Known(api.Place{Token: k}), scope.Universe("iota")); got != (isKnown && isToken) {
					t.Errorf("9.5: %q: iota at piece %d: %t", lines, k, got)
				}
			}
		}
	}
	p, s := resolved(t, alone("const a = func(iota int) { print(iota) }"))
	l := s.Decls()
	at := where(p, "print", 1)
	if known := s.Known(at); !slices.Contains(known, s.Makes(where(p, "iota", 1))) || slices.Contains(known, scope.Universe("iota")) {
		t.Error("9.5: a parameter hides iota", names(l, known))
	}
	if !slices.Contains(s.Known(where(p, "func", 1)), scope.Universe("iota")) {
		t.Error("9.5: iota ahead of what hides it")
	}
}

// TestKnownByName: each name once, by rising bytes, the innermost one.
func TestKnownByName(t *testing.T) {
	p, s := resolved(t, alone("import \"x\"\nvar é, Z, a, _ int\nfunc f(a int) { Z := 1; { é, a := 1, 2; print(a, é, Z) }; L: }"))
	l := s.Decls()
	known := s.Known(where(p, "print", 1))
	if got, want := names(l, known), "Z a append bool copy delete f false int len main make new nil panic print string true x é"; got != want {
		t.Errorf("9.5: %s, not %s", got, want)
	}
	for _, c := range []struct {
		word string
		n    int
	}{{"é", 2}, {"a", 3}, {"Z", 2}} {
		if !slices.Contains(known, s.Makes(where(p, c.word, c.n))) {
			t.Errorf("9.5: not the innermost %s", c.word)
		}
	}
	known = s.Known(where(p, "{", 1))
	if !slices.Contains(known, s.Makes(where(p, "a", 2))) || !slices.Contains(known, s.Makes(where(p, "é", 1))) || slices.Contains(known, s.Makes(where(p, "a", 1))) {
		t.Error("9.5: at the Block's first token", names(l, known))
	}
	if known = s.Known(where(p, "f", 1)); !slices.Contains(known, s.Makes(where(p, "a", 1))) {
		t.Error("9.5: ahead of the Block")
	}
}
