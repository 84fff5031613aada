package rename_test

import (
	"math"
	"slices"
	"strings"
	"testing"

	"moniker/api"
)

// TestNoByte: R1, 1: numbers of no file, places of no byte; Explain tells of no place.
func TestNoByte(t *testing.T) {
	given := files("a: package main; var v = 1; func main() { }", "b: ", "c: package main")
	for _, name := range []string{"c", "if", "", "main"} {
		for _, given := range [][]api.File{given, given[:1], nil, {}, files("a: func", "b: ", "c: \xff")} {
			for _, file := range []int{-1, 1, 3, 64, math.MaxInt, math.MinInt} {
				for _, offset := range []int{-1, 0, 18, 43, math.MaxInt, math.MinInt} {
					refuses(t, asked{files: given, file: file, offset: offset, at: nowhere}, name, api.ErrArg)
				}
			}
			for file, f := range given {
				for _, offset := range []int{-1, len(f.Text), len(f.Text) + 1, math.MaxInt, math.MinInt} {
					refuses(t, asked{files: given, file: file, offset: offset, at: nowhere}, name, api.ErrArg)
				}
			}
		}
	}
}

var nowhere = api.Place{File: -1, Token: -1}

// TestNewNameSeen: R2, 2: the piece that holds the byte, in this file alone; none, if this file can't be cut.
func TestNewNameSeen(t *testing.T) {
	for _, rows := range [][]string{
		{"a: package main; func main() { @#a := 1; print(a) }"},
		{"a: @#package main"},
		{"a: package@# \n main"},
		{"a: package#  \n@ main"},
		{"a: #pack@age main"},
		{"a: package main; #// no@thing"},
		{"a: package main; #/* é\xc3@\xa9 */ func"},
		{"a: package main; var v = #\"a@b\""},
		{"a: package main; var v = #`a@b\n`; "},
		{"a: package main; var v = #'@a'"},
		{"a: package main; var v = 1 #:@= 2"},
		{"a: package main; var v = 1 @#;"},
		{"a: @#) ( {"},
		{"b: \xff", "a: @#x", "c: \"", "d: 08"},
		{"a: @#x", "a: @#y"},
		{"a: @x \xff"},
		{"a: @x \"", "b: package main; func main() { }"},
		{"b: package main; func main() { }", "a: /*@*/ /*"},
		{"a: package@ main; var v = 0x"},
		{"a: @" + strings.Repeat("n", api.MaxName+1)},
	} {
		q := read(rows...)
		for _, name := range []string{"if", "_", "main", "init", "", "a b", "\xff"} {
			refuses(t, q, name, api.ErrNewName)
		}
	}
}

// TestFaults: R1, 3, and R2: the fault's Why, at the piece that holds its place; the other files play no part.
func TestFaults(t *testing.T) {
	many := slices.Repeat([]string{"a: package main"}, api.MaxFiles+1)
	for i := range many {
		many[i] = strings.Repeat("n", i+1) + many[i]
	}
	many[0] = "a: package @main"
	swap := func(text string) []string { return append(slices.Clone(many[:api.MaxFiles]), text) }
	for _, c := range []struct {
		files []string
		why   api.Errno
		file  int // of the fault, where no piece holds it
	}{
		{[]string{"a: package main; func @main() { #x := 1 }"}, api.ErrUnused, -1},
		{[]string{"a: package main; func @main() { print(#x) }"}, api.ErrUnknown, -1},
		{[]string{"a: package #main; func @f() { }"}, api.ErrMain, -1},
		{[]string{"a: #package other; func @f() { }"}, api.ErrMain, -1},
		{[]string{"a: # \n package other; func @f() { }"}, api.ErrMain, -1},
		{[]string{"a: package main; func @main() { #func"}, api.ErrParse, 0},
		{[]string{"a: package main; func @main() { if #} }"}, api.ErrParse, -1},
		{[]string{"a: @package main; \xff"}, api.ErrByte, 0},
		{[]string{"a: @package main; 1a"}, api.ErrNumber, 0},
		{[]string{"a: @package main; /*"}, api.ErrNote, 0},
		{[]string{"a: @package main; \"a"}, api.ErrQuote, 0},
		{[]string{"a: @package main; " + strings.Repeat("n", api.MaxName+1)}, api.ErrName, 0},
		{[]string{"a: package @main; func main() { }", "b: package main; '"}, api.ErrQuote, 1},
		{[]string{"a: package main; '", "b: package @main; func main() { #} }"}, api.ErrQuote, 0},
		{[]string{"a: package main; func main() { #) }", "b: package @main; '"}, api.ErrParse, -1},
		{[]string{"a: package main; func main() { }", "b: package @main; #)"}, api.ErrParse, -1},
		{[]string{"a: package @main; func main() { }", "b: package #other"}, api.ErrPackage, -1},
		{[]string{"a: package @main; import #\"x\"; func main() { }"}, api.ErrImport, -1},
		{[]string{"a: package @main; func main() { }", "a: #package main"}, api.ErrTwice, -1},
		{[]string{"a: package @main; func main() { }", "a: '"}, api.ErrTwice, 1},
		{[]string{"a: '", "a: #package @main; func main() { }"}, api.ErrTwice, -1},
		{[]string{"a: package @main; func main() { }", "a: "}, api.ErrTwice, 1},
		{swap("b: #package main"), api.ErrMany, -1},
		{swap("b: '"), api.ErrMany, api.MaxFiles},
		{swap("b: "), api.ErrMany, api.MaxFiles},
		{[]string{"a: package main; var @v #+= 1"}, api.ErrParse, -1},
		{[]string{"a: package main; var @a, #a int; func main() { }"}, api.ErrTwice, -1},
		{[]string{"a: package main; var @a int = 1 #+ \"\"; func main() { }"}, api.ErrMix, -1},
		{[]string{"a: package main; type @#A A; func main() { }"}, api.ErrCycle, -1},
		{[]string{"a: package main; func @f() int { #}; func main() { }"}, api.ErrReturn, -1},
	} {
		q := read(c.files...)
		if c.file >= 0 {
			q.at = api.Place{File: c.file, Token: -1}
		}
		refuses(t, q, "c", c.why)
	}
}

// TestNowhere: R1, 4, and R2: bytes in no occurrence: the blank name, keywords, blanks, comments, literals, marks.
func TestNowhere(t *testing.T) {
	given := files("a: package main; /* a */ import p \"x\" // a\nvar _, a = 'a', `a` + \"a\"; var b = p.C << 0x2\nfunc main() { }\r\n\t", "x/b: package x; const C = 1")
	w := opened(t, given)
	met := map[api.Kind]int{}
	for file := range given {
		for n, p := range w.Program().Tokens(file) {
			at := api.Place{File: file, Token: n}
			if p.Kind == api.TokName && w.Program().Word(at) != "_" {
				continue
			}
			for offset := p.From; offset < p.To; offset++ {
				refuses(t, asked{files: given, file: file, offset: offset, at: at}, "new", api.ErrNowhere)
				met[p.Kind]++
			}
		}
	}
	for _, kind := range []api.Kind{api.TokBlanks, api.TokNote, api.TokName, api.TokNumber, api.TokChar, api.TokText, api.TokVar, api.TokShl} {
		if met[kind] == 0 {
			t.Errorf("none of kind %d", kind)
		}
	}
}

// TestTarget: R1, 5, and R2: what may not be renamed, from wherever it is named.
func TestTarget(t *testing.T) {
	for _, rows := range [][]string{
		{"a: package @#main; func main() { }"},
		{"a: package main; func #m@ain() { }"},
		{"a: package main; func main() { }; func @#init() { }"},
		{"a: package main; func main() { }; func init() { }; func @#init() { }"},
		{"a: package main; func main() { if false { @#main() } }"},
		{"a: package main; var v @#int; func main() { }"},
		{"a: package main; func main() { @#print(1) }"},
		{"a: package main; func main() { print(@#true) }"},
		{"a: package main; var v []int = @#nil; func main() { }"},
		{"a: package main; const c = @#iota; func main() { }"},
		{"a: package main; import @#p \"x\"; var v = p.C; func main() { }", "x/b: package x; const C = 1"},
		{"a: package main; import p \"x\"; var v = @#p.C; func main() { }", "x/b: package x; const C = 1"},
		{"a: package main; import \"x\"; var v = @#x.C; func main() { }", "x/b: package x; const C = 1"},
		{"a: package main; import \"x\"; var v = x.C; func main() { }", "x/b: package @#x; const C = 1"},
		{"a: package main; func main() { }", "b: package @#main"},
		{"a: package main; type T struct { f @#string }; func main() { }"},
		{"a: package main; func f(string int) { print(@#len(\"\"), string) }; func main() { }"},
	} {
		q := read(rows...)
		for _, name := range []string{"new", "a", "int", strings.Repeat("n", api.MaxName)} {
			refuses(t, q, name, api.ErrTarget)
		}
	}
}

// TestBroken: R1, 6, and R2: the new files would be refused, for whatever reason; the place is one of theirs.
func TestBroken(t *testing.T) {
	for _, c := range []struct {
		name  string
		files []string
	}{
		// declared twice
		{"b", []string{"a: package main; var @a, #b int; func main() { }"}},
		{"b", []string{"a: package main; var b, @#a int; func main() { }"}},
		{"b", []string{"a: package main; var @a int; func main() { }", "b: package main; func #b() { }"}},
		{"b", []string{"a: package main; func main() { }; type b int", "b: package main; const @#a = 1"}},
		{"b", []string{"a: package main; func f(@a, #b int) { }; func main() { }"}},
		{"b", []string{"a: package main; func (@a T) m(#b int) { }; type T int; func main() { }"}},
		{"b", []string{"a: package main; func main() { var @a int; var #b int; _, _ = a, b }"}},
		{"b", []string{"a: package main; func main() { const b = 1; type @#a int; _ = a(b) }"}},
		{"b", []string{"a: package main; func main() { @a, #b := 1, 2; print(a, b) }"}},
		{"b", []string{"a: package main; func main() { for @a, #b := range []int{1} { print(a, b) } }"}},
		{"b", []string{"a: package main; func main() { @a: for { #b: for { break a; continue b } } }"}},
		{"x", []string{"a: package main; import #\"x\"; var @a = x.C; func main() { }", "x/b: package x; const C = 1"}},
		{"p", []string{"a: package main; import #p \"x\"; var v = p.C; func main() { }", "b: package main; var @a = 1", "x/b: package x; const C = 1"}},
		{"b", []string{"a: package main; type T struct { @a int; #b string }; func main() { }"}},
		{"b", []string{"a: package main; type T struct { @a int }; func (t T) #b() { }; func main() { }"}},
		{"b", []string{"a: package main; type I interface { b(); @#a() }; func main() { }"}},
		{"b", []string{"a: package main; type @A int; type T struct { A; #b int }; func main() { }"}},
		{"b", []string{"a: package main; type I interface { @a() }; type J interface { b(int); #I }; func main() { }"}},
		// nothing new
		{"b", []string{"a: package main; func f(@b0 int) int { #b := b0; return b }; func main() { }"}},
		{"b", []string{"a: package main; func f(b int) int { @#c := b; return c }; func main() { }"}},
		{"b", []string{"a: package main; type I interface { }; func f(i I) { switch @s := i.(type) { case int: #b := 1; print(b, s) } }; func main() { }"}},
		// not used any more
		{"a", []string{"a: package main; func main() { #a := 1; { @b := 2; print(a); _ = b } }"}},
		// another kind of thing, or one that needs itself
		{"t", []string{"a: package main; type t int; func main() { type @#u t; var v u; _ = v }"}},
		{"int", []string{"a: package main; func main() { @v := 1; var w #int; print(v, w) }"}},
		{"len", []string{"a: package main; func main() { @v := 1; print(v, #len(\"a\")) }"}},
		{"nil", []string{"a: package main; var @v = 1; var w []int = #nil; func main() { print(v) }"}},
		{"p", []string{"a: package main; import p \"x\"; func main() { @v := 1; print(v, p.#C) }", "x/b: package x; const C = 1"}},
		{"m", []string{"a: package main; type A struct { }; func (a A) m() { }; type B struct { }; func (b B) @n() { }; type C struct { A; B }; func main() { C{}.#m() }"}},
		{"m", []string{"a: package main; type I interface { m() }; type A struct { }; func (a A) m() { }; type B struct { A; @n int }; var i I = #B{}; func main() { }"}},
		{"A", []string{"a: package main; type A struct { f int }; func main() { for _, @b := range []int{1} { print(b, #A{}.f) } }"}},
	} {
		refuses(t, read(c.files...), c.name, api.ErrBroken)
	}
}

// TestBound: R1, 7, and R2: an occurrence would be bound to something else: the first such token.
func TestBound(t *testing.T) {
	for _, c := range []struct {
		name  string
		files []string
	}{
		// caught by a nearer one
		{"b", []string{"a: package main; var @a = 1; func f(b int) int { return #a }; func main() { }"}},
		{"b", []string{"a: package main; func main() { @a := 1; { b := 2; print(b, #a, a) }; print(a) }"}},
		{"b", []string{"a: package main; func f(@a int) func(int) int { return func(b int) int { return #a } }; func main() { }"}},
		{"v", []string{"a: package main; import \"x\"; func main() { v := 1; print(v, x.@f) }", "b: package main; import \"x\"; var w = x.f", "x/b: package x; var f = 1; func g(v int) int { return #f }"}},
		// catching others
		{"a", []string{"a: package main; var a = 1; func f(@b int) int { return #a }; func main() { }"}},
		{"print", []string{"a: package main; func @f(n int) { }; func main() { f(1); #print(2) }"}},
		{"len", []string{"a: package main; func main() { print(#len(\"\")) }", "b: package main; func @f(s string) int { return len(s) }", "x/c: package x; var v = len(\"\")"}},
		{"true", []string{"a: package main; func main() { print(#true) }", "b: package main; const @f = false"}},
		{"string", []string{"a: package main; type @T int; func f(a int) { var s #string; _ = s; _ = a }; func main() { }"}},
		{"b", []string{"a: package main; func main() { b := 1; { @a := 2; _ = a; print(#b) }; print(b) }"}},
		// a name on the left of := that is no longer new, or is new now
		{"c", []string{"a: package main; func main() { }; func f(c int) { @#a, b := 1, c; print(a, b) }"}},
		{"c", []string{"a: package main; func main() { f(1); #g() }; func f(c int) { @a, b := 1, c; print(a, b) }; func g() { }"}},
		{"c", []string{"a: package main; func main() { #g() }", "b: package main; func f(c int) { @a, b := 1, c; print(a, b) }; func g() { }"}},
		// members
		{"m", []string{"a: package main; type A struct { m int }; type B struct { A; @n int }; func main() { print(B{}.#m) }"}},
		{"n", []string{"a: package main; type A struct { @m int }; type B struct { A }; type C struct { B; n int }; func main() { print(C{}.#m) }"}},
		{"m", []string{"a: package main; type A struct { m int }; type C struct { A }; type D struct { C; B }; type B struct { @n int }; func main() { print(D{}.#m) }"}},
		{"n", []string{"a: package main; import \"x\"; type B struct { x.A; n int }; func main() { print(B{}.#m) }", "x/c: package x; type A struct { @m int }"}},
	} {
		refuses(t, read(c.files...), c.name, api.ErrBound)
	}
}

// TestMeaning: R1, 8, and R2: a satisfaction would be another; it is seen at no place.
func TestMeaning(t *testing.T) {
	for _, c := range []struct {
		name  string
		files []string
	}{
		{"m", []string{"a: package main; type I interface { m() }; type T struct { }; func (t T) @k() { }; func main() { }"}},
		{"m", []string{"a: package main; type I interface { m() }; type T struct { }; func (t *T) @k() { }; func main() { }"}},
		{"m", []string{"a: package main; type I interface { m() }; type T int; func (t T) k() { }; func main() { T(1).@k() }"}},
		{"k", []string{"a: package main; type I interface { @m() }; type T struct { }; func (t T) k() { }; func main() { }"}},
		{"m", []string{"a: package main; type I interface { m(); n() }; type T struct { }; func (t T) @k() { }; func (t T) n() { }; func main() { }"}},
		{"m", []string{"a: package main; type I interface { m() }; type J interface { @k() }; func main() { }"}},
		{"m", []string{"a: package main; type I interface { m() }; type J interface { @k(); l() }; func main() { }"}},
		{"m", []string{"a: package main; type I interface { m() }; func main() { type J interface { @k() }; var j J; _ = j }"}},
		{"m", []string{"a: package main; type I interface { m() }; type A struct { }; func (a A) m() { }; type B struct { }; func (b B) @k(n int) { }; type C struct { A; B }; func main() { }"}},
		{"m", []string{"a: package main; type I interface { m() }; type A struct { }; func (a A) m() { }; type B struct { A; @k int }; func main() { }"}},
		{"m", []string{"a: package main; type I interface { m() }; type A struct { }; func (a A) m() { }; type B struct { A }; func (b B) @k(n int) { }; func main() { }"}},
		{"m", []string{"a: package main; type I interface { m() }; type A struct { }; func (a A) m() { }; type @T int; type B struct { A; T }; func main() { }"}},
		{"m", []string{"a: package main; type T int; func (t T) @k() int { return 1 }; func main() { T(1).k() }", "x/b: package x; type I interface { m() int }"}},
	} {
		refuses(t, read(c.files...), c.name, api.ErrMeaning)
	}
}

// TestClass: R1, 9, and R2: the class would be another: seen where it was asked for.
func TestClass(t *testing.T) {
	for _, c := range []struct {
		name  string
		files []string
	}{
		{"x", []string{"a: package main; type A struct { x int }; type B struct { A; @#y int }; func main() { }"}},
		{"y", []string{"a: package main; type A struct { @#x int }; type B struct { A; y int }; func main() { }"}},
		{"y", []string{"a: package main; type A struct { x int }; type B struct { A; y int }; func main() { var b B; print(b.A.#@x, b.y) }"}},
		{"x", []string{"a: package main; type A struct { x int }; type B struct { @#y int }; type C struct { A; *B }; func main() { }"}},
		{"x", []string{"a: package main; type A struct { x int }; type @#B struct { y int }; type C struct { A; B }; func main() { }"}},
		{"x", []string{"a: package main; type A struct { x int }; type B struct { y int }; type C struct { A; #@B }; func main() { }"}},
		{"x", []string{"a: package main; type @#A struct { x int }; type C struct { A }; func main() { }"}},
		{"n", []string{"a: package main; type I interface { @#m() }; type A int; func (a A) n(k int) { }; type T struct { A }; func (t T) m() { }; func main() { }"}},
		{"n", []string{"a: package main; type A struct { }; func (a A) @#m() { }; type T struct { A }; func (t *T) n(k int) { }; func main() { }"}},
		{"f", []string{"a: package main; import \"x\"; type T struct { x.A; f int }; func main() { }", "x/b: package x; type A struct { @#g int }"}},
	} {
		refuses(t, read(c.files...), c.name, api.ErrClass)
	}
}

// TestFirst: R1: of two refusals the one that stands first.
func TestFirst(t *testing.T) {
	// 1 and 2, 3, 4: TestNoByte. 2 and 3, 4, 5:
	refuses(t, read("a: package main; func main() { #@x := 1 }"), "if", api.ErrNewName)
	refuses(t, read("a: package main;@# func main() { }"), "if", api.ErrNewName)
	refuses(t, read("a: package main; func @#main() { }"), "init", api.ErrNewName)
	refuses(t, read("a: package main; func @#main() { }"), "main", api.ErrNewName)
	// 2 and 6, 7, 8, 9: a keyword breaks the files, the blank name leaves a token bound to nothing
	refuses(t, read("a: package main; func main() { #@x := 1; print(x) }"), "func", api.ErrNewName)
	refuses(t, read("a: package main; func f(#@x int) { }; func main() { }"), "_", api.ErrNewName)
	refuses(t, read("a: package main; type A struct { #@f int }; func main() { }"), "_", api.ErrNewName)
	// 3 and 4, 5, 6
	refuses(t, read("a: package main;@ func main() { #x := 1 }"), "c", api.ErrUnused)
	refuses(t, read("a: package main; func @main() { #x := 1 }"), "c", api.ErrUnused)
	refuses(t, read("a: package main; func f(@a, b int) { #x := 1 }; func main() { }"), "b", api.ErrUnused)
	// 6 and 7, 8, 9: of T and what embeds it, m would be declared twice, catch another, satisfy I, be tied to another
	const types = "type I interface { m() }; type T struct { }; func (t T) @k() { }; type U struct { }; func (u U) m() { }; type V struct { U }; type S struct { T; V }; func main() { "
	refuses(t, read("a: package main; func (t T) m(n int) { }; "+strings.Replace(types, "@k", "@#k", 1)+"S{}.m(1) }"), "m", api.ErrBroken)
	// 7 and 8, 9
	refuses(t, read("a: package main; "+types+"S{}.#m() }"), "m", api.ErrBound)
	// 8 and 9
	refuses(t, read("a: package main; "+types+"}"), "m", api.ErrMeaning)
	// 9 alone
	refuses(t, read("a: package main; "+strings.Replace(types[len("type I interface { m() }; "):], "@", "#@", 1)+"}"), "m", api.ErrClass)
}
