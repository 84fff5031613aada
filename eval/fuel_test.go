package eval_test

import (
	"testing"

	"moniker/api"
	"moniker/eval"
)

// shop are declarations for Blocks whose fuel is counted; at package level 3 are taken.
const shop = `
import "x"
type t struct { a int }
type u struct { t; b int }
type n int
type e interface { }
var v, b1 = 1, 5
func (x t) get() int { return x.a }
func (x *t) set(b int) { x.a = b; x.a++ }
func f() int { print(1); return 2 }
func f0() { return; print(1) }
func f1(a, b int) { }
func f2() (int, int) { return 1, 2 }
func mt() t { return t{} }
func ms() []int { return []int{1} }
func _() { _ = x.V }
`

const atStart = 3

// price is a Block of func main, and what it takes; the last one is taken at the @, if there is one.
type price struct {
	row, block string
	takes      int
}

// TestExpressionPrices: 14.5, row by row.
func TestExpressionPrices(t *testing.T) {
	count(t, []price{
		{"constant", "_ = @1", 2},
		{"constant: one for all of it", "_ = @-(1 + 2) * 3 << 4", 2},
		{"constant in Parens", "_ = @(1)", 2},
		{"constant conversion, len", "_ = n(1); _ = @len(\"ab\")", 4},
		{"constant by name", "const c = 1 + 2; _ = @c", 3},
		{"constant true", "_ = @true", 2},
		{"nil", "var p *t; _ = p == @nil", 5},
		{"nil in Parens", "var p *t; _ = p == (@nil)", 6},
		{"variable", "x := 1; _ = @x", 4},
		{"package variable", "_ = @v", 2},
		{"function", "_ = @f1", 2},
		{"imported variable", "_ = @x.V", 2},
		{"imported function", "_ = @x.F", 2},
		{"imported constant", "_ = @x.C", 2},
		{"imported and in Parens", "_ = (@x.V)", 3},
		{"Paren", "x := 1; _ = ((@x))", 6},
		{"Binary", "x := 1; _ = x + @2", 6},
		{"Binary with a constant part", "x := 1; _ = x + @2 * 3", 6},
		{"Binary of Binary", "_ = v + v * @v", 6},
		{"&& that goes on", "x := true; _ = x && @x", 6},
		{"&& that is decided", "x := false; _ = @x && x", 5},
		{"|| that goes on", "x := false; _ = x || @x", 6},
		{"|| that is decided", "x := true; _ = @x || x", 5},
		{"Sign", "x := 1; _ = -@x", 5},
		{"Sign, twice", "x := true; _ = !!@x", 6},
		{"& of a variable", "x := 1; _ = &@x", 5},
		{"& of a variable in Parens", "x := 1; _ = &(@x)", 6},
		{"& of an imported variable", "_ = &@x.V", 3},
		{"& of a field", "var x t; _ = &@x.a", 5},
		{"& of an element", "s := []int{1}; _ = &s[@0]", 3 + 5},
		{"& of a Star", "x := 1; p := &x; _ = &*@p", 2 + 3 + 4},
		{"& of a Composite", "_ = &t{@1}", 4},
		{"& of an empty Composite", "_ = &@t{}", 3},
		{"& of a Composite in Parens", "_ = &((t{@1}))", 6},
		{"Select of a field of a variable", "var x t; _ = @x.a", 4},
		{"Select of a field by a pointer", "x := new(t); _ = @x.a", 5},
		{"Select of a Call", "_ = mt().a", 4 + 2},
		{"Select of a Select", "var x u; _ = @x.t.a", 5},
		{"Select by a way", "var x u; _ = @x.a", 4},
		{"Select in Parens", "var x t; _ = (@x).a", 5},
		{"Select of a Composite", "_ = (t{@1}).a", 5},
		{"method value", "var x t; _ = @x.get", 4},
		{"method value by a way", "var x u; _ = @x.get", 4},
		{"method expression", "_ = t.get; _ = @(*t).get", 4},
		{"Call of a type", "x := 1; _ = n(@x)", 5},
		{"Call of a type in Parens", "x := 1; _ = (n)(@x)", 5},
		{"Call of a map's type", "_ = map[int]int(@nil)", 3},
		{"append", "var s []int; _ = append(s, 1, @2)", 6},
		{"append of nothing", "var s []int; _ = append(@s)", 4},
		{"append ...", "var s []int; _ = append(s, @s...)", 5},
		{"copy", "var s []int; copy(s, @s)", 5},
		{"delete", "var m map[int]int; delete(m, @1)", 5},
		{"len", "var s []int; _ = len(@s)", 4},
		{"make of a slice", "_ = make([]int, 1, @2)", 4},
		{"make of a map", "_ = @make(map[int]int)", 2},
		{"new", "_ = @new(t)", 2},
		{"print", "print(1, @v)", 4},
		{"print of nothing", "@print()", 2},
		{"Call of a func", "f1(1, @2)", 5},
		{"Call of a func in Parens", "(f1)(1, @2)", 6},
		{"Call with a Call of several", "f1(f2())", 5 + 3},
		{"Call of a FuncLit", "@func() { }()", 3},
		{"Call of a method", "var x t; x.set(3)", 1 + 5 + 4 + 3},
		{"Call of a method expression", "t.get(t{})", 4 + 3},
		{"FuncLit", "_ = @func() { print(1) }", 2},
		{"Composite of a struct type, keys", "_ = u{b: 1, t: @t{}}", 4},
		{"Composite of a struct type", "_ = u{t{}, @1}", 4},
		{"Composite of a slice", "_ = []int{1, @2}", 4},
		{"Composite of a slice, keys", "_ = []int{2: 1, 1 + 2: 2, @3}", 7},
		{"Composite of a map", "_ = map[int]int{1: 2, v: @3}", 6},
		{"Index of a slice", "s := []int{1}; _ = s[@0]", 3 + 4},
		{"Index of a text", "x := \"a\"; _ = x[@0]", 2 + 4},
		{"Index of a constant text", "_ = \"abc\"[@0]", 4},
		{"Index of a map", "var m map[int]int; _ = m[@0]", 5},
		{"Index with comma ok", "var m map[int]int; _, _ = m[@0]", 5},
		{"Slice", "var s []int; _ = s[0:@0]", 6},
		{"Slice without bounds", "var s []int; _ = @s[:]", 4},
		{"Slice with the second bound", "var s []int; _ = s[:@0]", 5},
		{"Slice of a text", "_ = \"abc\"[@1:]", 4},
		{"Star", "p := new(int); _ = *@p", 2 + 3},
		{"Assert", "var x e = 1; _ = @x.(int)", 5},
		{"Assert with comma ok", "var x e; _, _ = @x.(int)", 4},
	})
}

// TestPlacePrices: 14.6.
func TestPlacePrices(t *testing.T) {
	count(t, []price{
		{"Name", "x := 1; x = 2; print(@x)", 2 + 3 + 3},
		{"Paren", "x := 1; (x) = 2; print(@x)", 2 + 4 + 3},
		{"imported variable", "x.V = @2", 3},
		{"Star", "p := new(int); *p = @1", 2 + 4},
		{"Select", "var x t; x.a = @1", 5},
		{"Select by a pointer", "(&t{}).a = @1", 6},
		{"Select in a Select", "var x u; x.t.a = @1", 6},
		{"Index", "s := []int{1}; s[0] = @2", 3 + 5},
		{"Index of a Call", "ms()[0] = @2", 4 + 3 + 2},
		{"Index of a map", "m := map[int]int{}; m[v] = @2", 2 + 5},
		{"blank", "_, _ = 1, @2", 3},
		{"Step", "x := 1; @x++", 4},
		{"Step of a map's element", "m := map[int]int{}; m[@1]--", 2 + 4},
		{"Step of a field", "x := &t{1}; @x.a++", 4 + 3},
		{"operator", "a := 1; a += @2", 2 + 3},
		{"Range with =", "x := 1; for @x = range 2 { }", 2 + 2 + 2*2},
		{"Range with = and a blank", "s := []int{1, 1}; for _, s[@0] = range s { }", 4 + 2 + 2*4},
	})
}

// TestStatementPrices: 14.9.
func TestStatementPrices(t *testing.T) {
	count(t, []price{
		{"nothing", "", 0},
		{"Var", "var a, b int; _, _ = a, @b", 1 + 3},
		{"Var with values", "var a, b = 1, 2; _, _ = a, @b", 3 + 3},
		{"Var of several specs", "var ( a = 1; b, c = f2() ); _, _, _ = a, b, @c", 1 + 1 + 5 + 4},
		{"Const and Types", "const c = 1; @type x int", 2},
		{"Empty", ";@;", 2},
		{"Block", "{ @{ } }", 2},
		{"Define", "a, b := 1, 2; _, _ = a, @b", 3 + 3},
		{"Define with one that is used", "a := 1; a, b := b1, 2; _, _ = a, @b", 2 + 3 + 3},
		{"Define of comma ok", "m := map[int]int{}; a, ok := m[1]; _, _ = a, @ok", 2 + 4 + 3},
		{"Assign of several", "a, b := 1, 2; a, b = b, a; _ = @a", 3 + 5 + 2},
		{"Assign of a Call", "a, b := 1, 2; a, b = f2(); _, _ = a, @b", 3 + 5 + 3 + 3},
		{"Do and Return", "f0()", 3 + 1},
		{"If", "if v > @0 { }", 4},
		{"If with a Simple", "if x := 1; x > @0 { }", 6},
		{"If, its Block", "if v > 0 { @; } else { ; }", 5},
		{"If, else a Block", "if v < 0 { ; } else { ; @; }", 6},
		{"If, else If", "if v < 0 { } else if v > @0 { }", 8},
		{"If, else nothing", "if v < @0 { ; }", 4},
		{"Switch", "switch @v { }", 2},
		{"Switch with a Simple", "switch x := 1; @x { }", 4},
		{"Switch, the cases that are compared", "switch v { case 0, @1, 2: case f(): }", 4},
		{"Switch, the Default", "switch v { default: @; case 0, 2: }", 5},
		{"Switch without a tag", "switch { case false: case @true, f() > 0: }", 3},
		{"Switch, Fall", "switch { case true: fallthrough; case f() > 0: @; }", 4},
		{"Switch, Break", "switch { case true: @break; ; }", 3},
		{"Match", "var x e; switch @x.(type) { case nil: case int, string: }", 3},
		{"Match with a Simple and a Name", "var x e; switch y := 1; z := x.(type) { default: print(y); _ = @z }", 1 + 4 + 3 + 2},
		{"Match that nothing fits", "var x e; switch @x.(type) { case int: }", 3},
		{"For without anything", "for { @break }", 3},
		{"For with a condition", "x := 2; for x > @0 { x-- }", 2 + 1 + 3*4 + 2*2},
		{"For of three", "for i := 0; i < @2; i++ { }", 3 + 3*4 + 2*2},
		{"For, Continue", "for i := 0; i < @2; i++ { continue; ; }", 3 + 3*4 + 2*2 + 2},
		{"Range over an int", "@for range 3 { }", 2 + 3},
		{"Range over a variable", "x := 3; for i := range x { _ = @i }", 2 + 2 + 3*3},
		{"Range over nothing", "for range @0 { }", 2},
		{"Range over a slice", "s := make([]int, 3); @for range s { }", 3 + 2 + 3},
		{"Range over a text", "@for range \"ab\" { }", 2 + 2},
		{"Range over a map", "@for range map[int]int{3: 4, 5: 6} { }", 6 + 2},
		{"Range over keys that are gone", "m := map[int]int{3: 4, 5: 6}; for range m { delete(m, @5) }", 6 + 2 + 1 + 4},
		{"Range over a nil map", "var m map[int]int; for range @m { }", 1 + 2},
		{"Range's names", "for a, b := range []int{7} { _, _ = a, @b }", 3 + 1 + 3},
		{"Label", "L: for { @break L }", 3},
		{"Label of a Do", "_: print(@1)", 3},
		{"Label of an Assign", "x := 1; _: x = 2; print(@x)", 2 + 3 + 3},
		{"Label of a Block", "_: { @; }", 2},
		{"Label of a Label", "@_: _:", 1},
		{"Label of an If", "_: if v < 0 { } else if v > @0 { }", 8},
	})
}

// count holds Blocks to what they take: with just so much fuel each is done and nothing is left, with one less it is out of it.
func count(t *testing.T, list []price) {
	t.Helper()
	for _, c := range list {
		given, file, at := marked(append(mainly(shop, c.block), api.File{Name: "x/b", Text: "package x\nvar V = 1\nconst C = 2\nfunc F() { }"}))
		w := opened(t, given)
		all := atStart + c.takes
		if r := eval.Run(w, 1000); r.End != api.EndDone || 1000-r.Left != all {
			t.Errorf("%s: %q takes %d, not %d (end %d)", c.row, c.block, 1000-r.Left-atStart, c.takes, r.End)
			continue
		}
		if r := eval.Run(w, all); r.End != api.EndDone || r.Left != 0 || r.At != (api.Place{}) {
			t.Errorf("%s: %q with just enough: %v", c.row, c.block, r)
		}
		r := eval.Run(w, all-1)
		if r.End != api.EndFuel || r.Left != 0 {
			t.Errorf("%s: %q with one less: %v", c.row, c.block, r)
		}
		if p, ok := w.Program().Token(r.At); !ok || file >= 0 && (r.At.File != file || p.From != at) {
			t.Errorf("%s: %q with one less: at %v", c.row, c.block, r.At)
		}
	}
}

// TestEachUnit: 14.5, 14.9: the nodes at which a run takes, one by one.
func TestEachUnit(t *testing.T) {
	for _, c := range []struct{ block, words string }{
		{"x := 1; x = x + 2; print(-x)", "x 1 x x x x 2 print print - x"},
		{"for i := 0; i < 1; i++ { ; }", "for i 0 for i i 1 ; i i for i i 1"},
		{"for k, _ := range []int{5} { _ = k }", "for [ 5 for _ k"},
		{"if false { } else if x := 1; (x) > 0 { { } } else { }", "if false if x 1 ( ( x 0 {"},
		{"switch x := v; x { case 7: case 1: fallthrough; default: print() }", "switch x v x 7 1 fallthrough print print"},
		{"a, p := []int{3}, &t{}; a[p.a], p.a = p.a, a[0]", "a [ 3 & t a a a p p p p p p a a 0"},
		{"m := map[string]int{\"a\": 1}; m[\"a\"] += v; m[\"b\"]++", "m map \"a\" 1 m m m \"a\" v m m m \"b\""},
		{"g := func(a int) int { return a * 2 }; print(g(3), x.V)", "g func print print g g 3 return a a 2 x"},
		{"y := t{4}; h := y.get; print(h(), t.get(y), mt().a)", "y t 4 h y y print print h h return x x t t y return x x mt mt mt return t"},
	} {
		given := append(mainly(shop, c.block), api.File{Name: "x/b", Text: "package x\nvar V = 1\nconst C = 2\nfunc F() { }"})
		w := opened(t, given)
		all, words := 10000-eval.Run(w, 10000).Left, ""
		for fuel := atStart; fuel < all; fuel++ {
			r := eval.Run(w, fuel)
			if r.End != api.EndFuel || r.Left != 0 {
				t.Fatalf("%q with %d: %v", c.block, fuel, r)
			}
			if words != "" {
				words += " "
			}
			words += w.Program().Word(r.At)
		}
		if words != c.words {
			t.Errorf("%q takes at %s, not at %s", c.block, words, c.words)
		}
	}
}
