package rename_test

import (
	"slices"
	"strings"
	"testing"

	"moniker/api"
	"moniker/rename"
)

// accepted are renames that go, with the name; the rows' first marks say what is renamed.
var accepted = []struct {
	name  string
	files []string
}{
	// variables of functions
	{"c", []string{"a: package main; func main() { @$a := 1; print($a) }"}},
	{"c", []string{"a: package main; func main() { var @$a, b = 1, 2; $a, b = b, $a; print($a, b) }"}},
	{"c", []string{"a: package main; func main() { const ( @$a = iota; b ); print($a, b) }"}},
	{"c", []string{"a: package main; func f(@$a, b int) int { return $a + b }; func main() { print(f(1, 2)) }"}},
	{"c", []string{"a: package main; func f(a, b int) int { return a + b }; func main() { @$a := f(1, 2); print($a) }"}},
	{"c", []string{"a: package main; type T struct { f int }; func (@$a T) m() int { return $a.f }; func main() { print(T{}.m()) }"}},
	{"c", []string{"a: package main; func main() { for @$i := 0; $i < 3; $i++ { print($i); i := $i; _ = i } }"}},
	{"c", []string{"a: package main; func main() { for i := 0; i < 3; i++ { print(i); @$i := i; _ = $i } }"}},
	{"c", []string{"a: package main; func main() { for @$i, x := range []int{1} { print($i, x) } }"}},
	{"c", []string{"a: package main; func main() { var i int; for i, @$x := range []int{1} { print(i, $x) }; i = 2; print(i) }"}},
	{"c", []string{"a: package main; func main() { if @$a := 1; $a > 0 { print($a) } else if b := $a; b > $a { print(b) } }"}},
	{"c", []string{"a: package main; func main() { f := func(@$a int) func() int { return func() int { $a++; return $a } }; print(f(1)()) }"}},
	{"c", []string{"a: package main; type I interface { }; func f(i I) { switch @$i := i.(type) { case int: print($i); case string, bool: print($i == nil); case nil: default: _ = $i } }; func main() { f(1) }"}},
	{"c", []string{"a: package main; type I interface { }; func f(@$i I) { switch i := $i.(type) { case int: print(i); case string, bool: print(i == nil); case nil: default: _ = i } }; func main() { f(1) }"}},
	{"c", []string{"a: package main; func main() { a, b := 1, 2; @$d, b := b, a; print(b, $d) }"}},
	{"c", []string{"a: package main; func main() { a, @$b := 1, 2; d, $b := $b, a; print($b, d) }"}},
	{"c", []string{"a: package main; func main() { type @$T struct { all []$T }; var x $T; print(len(x.all)) }"}},
	// labels
	{"M", []string{"a: package main; func main() { @$L: for { for { continue $L }; break $L } }"}},
	{"x", []string{"a: package main; func main() { x := 1; $L: for { x++; if x > 3 { break @$L } } }"}},
	{"L", []string{"a: package main; func main() { L: for { func() { $M: for { break @$M } }(); break L } }"}},
	// of packages
	{"c", []string{"a: package main; var @$a = 1; func main() { print($a, b()) }", "b: package main; func b() int { a := 2; return a }; var d = $a"}},
	{"c", []string{"a: package main; const ( $a = iota; b ); func main() { print(@$a, b) }", "b: package main; type d []int; var e = d{$a: b}"}},
	{"c", []string{"a: package main; func main() { print($a(3)) }", "b: package main; func @$a(n int) int { if n == 0 { return 0 }; return $a(n - 1) }"}},
	{"c", []string{"a: package main; type @$T struct { next *$T; all []$T }; func (t $T) m(u $T) (int, $T) { return 1, t }; var f = $T.m; func main() { x := (*$T).m; _ = x }"}},
	{"c", []string{"a: package main; import \"x\"; func main() { print(x.$V) }", "b: package main; import p \"x\"; var v = p.@$V", "x/c: package x; var $V = 1", "x/d: package x; func f(V int) int { return V + g }; var g = $V"}},
	{"c", []string{"a: package main; import \"x\"; func main() { print(x.$C, x.$C) }", "x/c: package x; const @$C = 1; const D = $C + 1"}},
	{"c", []string{"a: package main; import \"x\"; func f(t x.$T) x.@$T { return t }; func main() { }", "x/c: package x; type $T int; func (t $T) T() { }"}},
	{"c", []string{"a: package main; import \"x\"; func main() { x.@$F(1); F() }; func F() { }", "x/c: package x; func $F(n int) { }"}},
	// members
	{"c", []string{"a: package main; type T struct { @$f, g int }; func main() { t := T{$f: 1}; t.$f = t.g; print((&t).$f, f) }; var f = T{g: 1}.$f"}},
	{"c", []string{"a: package main; type T struct { $f, g int }; func main() { f := 2; t := T{@$f: f}; print(t.$f) }"}},
	{"c", []string{"a: package main; type T struct { f, g int }; func main() { @$f := 2; t := T{f: $f}; print(t.f) }"}},
	{"c", []string{"a: package main; const $f = 0; type T struct { f, g int }; func main() { print(T{f: @$f}.f, []int{$f: 2}[$f], map[int]int{$f: $f}[0]) }"}},
	{"c", []string{"a: package main; type T int; func (t T) @$m() int { return 1 }; func (t *T) n() int { return t.$m() }; func main() { var t T; f := t.$m; print(f(), T.$m(t), (*T).$m(&t), t.n()) }"}},
	{"c", []string{"a: package main; import \"x\"; func main() { var t x.T; t.@$m(); t.f.$m() }", "x/c: package x; type T struct { f *T }; func (t *T) $m() { }"}},
	{"c", []string{"a: package main; type I interface { @$m(); n() }; func f(i I) { i.$m(); I.$m(i); i.n() }; func main() { }"}},
	{"c", []string{"a: package main; import \"x\"; type T struct { x.T; g int }; func main() { print(T{}.@$f, T{}.T.$f) }", "x/c: package x; type T struct { $f int }"}},
	// what must have one name: embedded types
	{"c", []string{"a: package main; type @$A struct { x int }; type B struct { $A; y int }; func main() { b := B{$A: $A{x: 1}}; print(b.$A.x, b.x) }"}},
	{"c", []string{"a: package main; type $A struct { x int }; type B struct { *$A; y int }; func main() { b := B{@$A: &$A{x: 1}}; print(b.$A.x, b.x) }"}},
	{"c", []string{"a: package main; import \"x\"; type A struct { x.@$T }; type B struct { *x.$T; A }; func main() { var b B; _ = b.$T; _ = b.A.$T; var t T; _ = t }; type T int", "x/c: package x; type $T struct { }"}},
	{"c", []string{"a: package main; type @$A interface { m() }; type B interface { $A }; type C struct { $A }; func main() { var c C; c.$A = B(nil); c.m() }"}},
	{"c", []string{"a: package main; type _ struct { @$A }; type $A int; type B struct { A int }; func main() { print(B{A: 1}.A) }"}},
	// interface types and what satisfies them
	{"c", []string{"a: package main; type I interface { @$m() }; type T int; func (t T) $m() { }; type U struct { }; func (u *U) $m() { }; type V struct { }; func (v V) m(n int) { }; func main() { V{}.m(1) }"}},
	{"c", []string{"a: package main; type I interface { $m(); n() }; type T int; func (t T) @$m() { }; func (t *T) n() { }; type U struct { }; func (u U) m() { }; func main() { U{}.m(); var t T; I(&t).$m() }"}},
	{"c", []string{"a: package main; type I interface { J; k() }; type J interface { @$m() }; type K interface { $m(); k() }; func f(i I, j J, k K) { i.$m(); j.$m(); k.$m() }; func main() { }"}},
	{"c", []string{"a: package main; import \"x\"; type T int; func (t T) @$m() { }; func main() { x.F(T(1)) }", "x/c: package x; type I interface { $m() }; func F(i I) { i.$m() }"}},
	{"c", []string{"a: package main; type I interface { $m() }; type T struct { I }; type U struct { T; @$m string }; func main() { var u U; print(u.$m); u.T.$m() }"}},
	// members that are hidden or ambiguous
	{"c", []string{"a: package main; type A struct { @$x int }; type B struct { A; $x string }; func main() { var b B; print(b.$x, b.A.$x) }"}},
	{"c", []string{"a: package main; type A struct { $x int }; type B struct { A; $x string }; func main() { var b B; print(b.@$x, b.A.$x) }"}},
	{"c", []string{"a: package main; type A struct { $x int }; type B struct { @$x int }; type C struct { A; B }; func main() { var c C; print(c.A.$x, c.B.$x) }; type D struct { x int }; var d = D{x: 1}"}},
	{"c", []string{"a: package main; type A struct { }; func (a A) @$x() { }; type B struct { *A }; type C struct { B; $x, y int }; func main() { var c C; print(c.$x, c.y) }"}},
	{"c", []string{"a: package main; type @$A struct { $A int }; type B struct { $A }; func main() { print(B{}.$A.$A) }"}},
	{"c", []string{"a: package main; import \"x\"; type B struct { x.A; $f int }; func main() { print(B{}.$f) }", "x/c: package x; type A struct { @$f int }"}},
	// names that are there already, but elsewhere
	{"f", []string{"a: package main; func f(@$a int) int { b := $a; return b }; func main() { print(f(1)) }"}},
	{"int", []string{"a: package main; func f(@$a int, b string) int { return len(b) + $a }; func main() { print(f(1, \"\")) }"}},
	{"len", []string{"a: package main; func main() { @$a := 1; print($a) }"}},
	{"x", []string{"a: package main; import \"x\"; func main() { x.F(); { @$a := 1; print($a) } }", "x/c: package x; func F() { }"}},
	{"x", []string{"a: package main; var @$a = 1; func main() { print($a) }", "b: package main; func f() { x := 1; print(x) }", "x/c: package x; var x = 1"}},
	{"b", []string{"a: package main; func main() { { @$a := 1; print($a) }; { b := 2; print(b) } }"}},
	{"b", []string{"a: package main; func main() { { @$a := 1; print($a) }; b := 2; print(b) }"}},
	{"x", []string{"a: package main; type A struct { x int }; type B struct { @$y int }; func main() { print(A{x: 1}.x, B{$y: 1}.$y) }"}},
	{"f", []string{"a: package main; type A struct { @$x int }; func f() { }; func main() { f := 1; print(A{$x: f}.$x) }"}},
	{"A", []string{"a: package main; type A struct { @$x A2 }; type A2 struct { A *A }; func main() { print(A{}.$x.A == nil) }"}},
	{"m", []string{"a: package main; type I interface { m(int) }; type T int; func (t T) @$n() { }; func main() { T(1).$n() }"}},
	{"nil", []string{"a: package main; type T struct { @$f *T }; func main() { print(T{$f: nil}.$f == nil) }"}},
	{"print", []string{"a: package main; type T int; func (t T) @$m() { print(t) }; func main() { T(1).$m() }"}},
	{"true", []string{"a: package main; func main() { print(true); @$L: for { break $L } }"}},
	// a name that stands there already
	{"a", []string{"a: package main; func main() { @$a := 1; print($a) }"}},
	{"m", []string{"a: package main; type I interface { $m() }; type T int; func (t T) @$m() { }; func main() { T(1).$m() }"}},
	{"int", []string{"a: package main; type @$int string; var a $int = \"\"; func main() { }"}},
	// blanks, comments, literals and other names that look alike
	{"é", []string{"a: package main /* a */\n\n// a\nvar @$a = \"a\" + `a`; var aa, _a, a1, A = 'a', $a, 1, 2\nfunc main()\t{\r\nprint /*a*/ ( /**/ $a/* a*/) }// a"}},
	{"a", []string{"a: package main; var @$né = \"é\"; func main() { print($né+\"né\") }\n"}},
}

// TestAccepted: R1, R3, P12, P15: what is renamed, and how it is taken back.
func TestAccepted(t *testing.T) {
	for _, c := range accepted {
		q := read(c.files...)
		l, now := accepts(t, q, c.name)
		w := opened(t, q.files)
		back, e := rename.Rename(now, q.file, rename.Back(l, q.file, q.offset), w.Program().Word(q.changed[0]))
		if was, _ := rename.Apply(now, back); e != api.OK || !slices.Equal(was, q.files) {
			t.Errorf("P15: %q, %d to %s: %d, %q", q.files, q.offset, c.name, e, was)
		}
		for _, to := range q.changed { // whichever of them is asked for
			p, _ := w.Program().Token(to)
			if other, e := rename.Rename(q.files, to.File, p.To-1, c.name); e != api.OK || !slices.Equal(other, l) {
				t.Errorf("R1: %q, %v to %s: %d, %v", q.files, to, c.name, e, other)
			}
		}
	}
}

// TestOffsets: R1: every byte of a name, and no other, is one at which it is renamed.
func TestOffsets(t *testing.T) {
	given := files("a: package main; var /* né */ né = \"né\"\nfunc main() { print(né , né) }\n// né")
	text := given[0].Text
	l, e := rename.Rename(given, 0, strings.Index(text, "né ="), "c")
	if e != api.OK || len(l) != 3 {
		t.Fatalf("R1: %v, %d", l, e)
	}
	for offset := -2; offset < len(text)+3; offset++ {
		got, e := rename.Rename(given, 0, offset, "c")
		why := api.ErrNowhere
		switch word := wordAt(text, offset); {
		case offset < 0 || offset >= len(text):
			why = api.ErrArg
		case word == "main" || word == "print":
			why = api.ErrTarget
		case slices.ContainsFunc(l, func(c api.Change) bool { return c.Edit.From <= offset && offset < c.Edit.To }):
			why = api.OK
		}
		if e != why || e == api.OK && !slices.Equal(got, l) {
			t.Errorf("R1: at %d: %d, not %d: %v", offset, e, why, got)
		}
	}
}

// wordAt is the run of small letters of ASCII around a byte.
func wordAt(text string, at int) string {
	isOther := func(r rune) bool { return r < 'a' || r > 'z' }
	if at < 0 || at >= len(text) || isOther(rune(text[at])) {
		return ""
	}
	return text[strings.LastIndexFunc(text[:at], isOther)+1 : at+strings.IndexFunc(text[at:]+" ", isOther)]
}

// TestNames: R1: what may be a new name.
func TestNames(t *testing.T) {
	q := read("a: package main; func main() { @$a := 1; print($a) }")
	for _, name := range []string{"b", "a", "_a", "__", "a_", "A", "z9", "é", "日本", "ǅ", "x٣", "nil", "iota", "true", "int", "append", "len", "mains", "init_", "Main", "ifs", strings.Repeat("x", api.MaxName), strings.Repeat("é", api.MaxName/2)} {
		accepts(t, q, name)
	}
	q = read("a: package main; func main() { #@a := 1; print(a) }")
	for _, name := range []string{"", "_", "main", "init", " ", "a b", " a", "a ", "a\n", "\ta", "a;", "a.b", "a/**/", "//a", "1", "1a", "0x1", "\"a\"", "'a'", "`a`", "+", "a-b", "\xff", "a\xff", "\x00", "a\x00", "é\xcc", "٣", "´", "a´", "\ufeffa", "#", "@",
		strings.Repeat("x", api.MaxName+1), strings.Repeat("é", api.MaxName/2+1), strings.Repeat("x", 1<<16),
		"break", "case", "chan", "const", "continue", "default", "defer", "else", "fallthrough", "for", "func", "go", "goto", "if", "import", "interface", "map", "package", "range", "return", "select", "struct", "switch", "type", "var"} {
		refuses(t, q, name, api.ErrNewName)
	}
}
