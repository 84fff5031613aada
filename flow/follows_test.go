package flow_test

import (
	"math"
	"strings"
	"sync"
	"testing"

	"moniker/api"
	"moniker/flow"
	"moniker/tree"
)

// blockEnds tells whether the Block of a function with these statements ends.
func blockEnds(t *testing.T, stmts ...string) bool {
	x := opened(t, files("a: package main; type I interface { }; func f(v I) { "+strings.Join(stmts, "; ")+" }"))
	tr := x.p.Tree(0)
	kids := tree.Kids(tr, x.firstFunc())
	return flow.Ends(x.p, x.s, 0, kids[3])
}

// TestEndsFollow: L7: a Block ends by its last statement alone.
func TestEndsFollow(t *testing.T) {
	ending := []string{"return", "panic(1)", "for { }", "{ return }", "if true { return } else { return }", "switch { default: return }", "switch v.(type) { default: panic(1) }"}
	others := []string{"print()", "for true { }", "{ }", "if true { return }", "switch { case true: return }", "v = nil", "for { break }"}
	for _, a := range append(ending, others...) {
		for _, b := range ending {
			if !blockEnds(t, a, b) || !blockEnds(t, a, b, "", "") {
				t.Errorf("L7: %s; %s does not end", a, b)
			}
		}
		for _, b := range others {
			if blockEnds(t, a, b) {
				t.Errorf("L7: %s; %s ends", a, b)
			}
		}
	}
}

// TestLeavesFollow: L8: what is left is around, of its kind, in the same function, and without a name the nearest.
func TestLeavesFollow(t *testing.T) {
	r := chance(8)
	asked := 0
	for range 200 {
		given := someFiles(r)
		x := opened(t, given)
		tr := x.p.Tree(0)
		for n, k := range tr.Nodes {
			to := flow.Leaves(x.p, x.s, 0, n)
			if to < 0 {
				continue
			}
			asked++
			mayBe := tr.Nodes[to].Kind == api.NodeFor || tr.Nodes[to].Kind == api.NodeRange || k.Kind == api.NodeBreak && (tr.Nodes[to].Kind == api.NodeSwitch || tr.Nodes[to].Kind == api.NodeMatch)
			if !mayBe || to >= n || to+tr.Nodes[to].Size <= n {
				t.Fatalf("L8: %.1000q: %d leaves %d", given, n, to)
			}
			isBare := tr.Nodes[tree.Kid(tr, n, 0)].Kind == api.NodeNone
			for a := tree.Up(tr, n); a != to; a = tree.Up(tr, a) {
				kind := tr.Nodes[a].Kind
				isNearer := kind == api.NodeFor || kind == api.NodeRange || k.Kind == api.NodeBreak && (kind == api.NodeSwitch || kind == api.NodeMatch)
				if kind == api.NodeFunc || kind == api.NodeFuncLit || isBare && isNearer {
					t.Fatalf("L8: %.1000q: between %d and %d is %d", given, n, to, a)
				}
			}
		}
	}
	if asked < 200 {
		t.Errorf("only %d Breaks and Continues", asked)
	}
}

// respelt are files with blanks and comments put in, and all names but the universe's respelt one for one; of each token its number in the old ones.
func respelt(x program) ([]api.File, []map[int]int) {
	var out []api.File
	var numbers []map[int]int
	for i, f := range x.p.Files() {
		var b strings.Builder
		from := map[int]int{} // by a byte of the new text: the byte of the old one
		for _, k := range x.p.Tokens(i) {
			word := f.Text[k.From:k.To]
			if k.Kind == api.TokBlanks {
				word = strings.ReplaceAll(word, " ", " /* c */ ")
			}
			from[b.Len()] = k.From
			if k.Kind == api.TokName && !isFixed(word) {
				word = "z" + word + "é"
			}
			b.WriteString(word)
		}
		out = append(out, api.File{Name: f.Name, Text: b.String()})
		numbers = append(numbers, from)
	}
	return out, numbers
}

func isFixed(word string) bool {
	for _, s := range []string{"_", "main", "init", "bool", "int", "string", "true", "false", "iota", "nil", "append", "copy", "delete", "len", "make", "new", "panic", "print"} {
		if s == word {
			return true
		}
	}
	return false
}

// TestNamesDoNotMatter: L9.
func TestNamesDoNotMatter(t *testing.T) {
	r := chance(9)
	faults := 0
	for range 150 {
		given := someFiles(r)
		x := opened(t, given)
		others, from := respelt(x)
		y := opened(t, others)
		back := func(f api.Fault) api.Fault {
			if f.Why != api.OK {
				f.At = from[f.File][f.At]
				faults++
			}
			return f
		}
		for n, k := range x.p.Tree(0).Nodes {
			if k.Kind != api.NodeFunc && k.Kind != api.NodeFuncLit {
				continue
			}
			if a, b := flow.Func(x.p, x.s, x.t, 0, n), back(flow.Func(y.p, y.s, y.t, 0, n)); a != b {
				t.Fatalf("L9: %.1000q: %v and %v", given, a, b)
			}
		}
		for pack := range x.p.Packs() {
			if a, b := flow.Imports(x.p, x.s, x.t, pack), back(flow.Imports(y.p, y.s, y.t, pack)); a != b {
				t.Fatalf("L9: %.1000q: %v and %v", given, a, b)
			}
		}
	}
	if faults < 100 {
		t.Errorf("only %d faults", faults)
	}
}

// TestApart: L1: what does not belong together, nil, and numbers of nothing.
func TestApart(t *testing.T) {
	given := files("a: package main; func f() int { for { break } }; func main() { f() }")
	x, y := opened(t, given), opened(t, given)
	n := x.firstFunc()
	wrongArg := api.Fault{Why: api.ErrArg}
	for _, z := range []program{{}, {x.p, x.s, nil}, {x.p, nil, x.t}, {nil, x.s, x.t}, {y.p, x.s, x.t}, {x.p, y.s, x.t}, {x.p, x.s, y.t}, {x.p, y.s, y.t}, {y.p, x.s, y.t}} {
		if f := flow.Func(z.p, z.s, z.t, 0, n); f != wrongArg {
			t.Errorf("L1: Func: %v", f)
		}
		if f := flow.Imports(z.p, z.s, z.t, 0); f != wrongArg {
			t.Errorf("L1: Imports: %v", f)
		}
		if z.p == x.p && z.s == x.s {
			continue
		}
		for k := range x.p.Tree(0).Nodes {
			if flow.Ends(z.p, z.s, 0, k) || flow.Leaves(z.p, z.s, 0, k) != -1 {
				t.Errorf("L1: Ends, Leaves of node %d", k)
			}
		}
	}
	count := len(x.p.Tree(0).Nodes)
	for _, k := range []int{-1, -2, count, count + 1, math.MaxInt, math.MinInt} {
		if flow.Func(x.p, x.s, x.t, 0, k) != wrongArg || flow.Ends(x.p, x.s, 0, k) || flow.Leaves(x.p, x.s, 0, k) != -1 {
			t.Errorf("L1: node %d", k)
		}
	}
	for _, k := range []int{-1, 1, math.MaxInt, math.MinInt} {
		if flow.Func(x.p, x.s, x.t, k, n) != wrongArg || flow.Imports(x.p, x.s, x.t, k) != wrongArg || flow.Ends(x.p, x.s, k, n) || flow.Leaves(x.p, x.s, k, n) != -1 {
			t.Errorf("L1: file or package %d", k)
		}
	}
	for k, node := range x.p.Tree(0).Nodes {
		if isFunc := node.Kind == api.NodeFunc; isFunc == (flow.Func(x.p, x.s, x.t, 0, k) == wrongArg) {
			t.Errorf("L1: Func of node %d of kind %d", k, node.Kind)
		}
	}
}

// TestTogether: several may ask at once (P5).
func TestTogether(t *testing.T) {
	given := someFiles(chance(3))
	x := opened(t, given)
	w := newWords(x)
	var all sync.WaitGroup
	for range 4 {
		all.Go(func() { compare(t, given, x, w) })
	}
	all.Wait()
}

// TestLarge: work grows with the program, not with its square.
func TestLarge(t *testing.T) {
	many := func(s string, n int) string { return strings.Repeat(s, n) }
	for what, text := range map[string]string{
		"functions":  many("func _(){};", 8000),
		"loops":      "func _() int {" + many("for{break};", 9000) + "for{}}",
		"nested":     "func _() int {" + many("for{", 120) + many("for{break};", 8000) + many("}", 120) + "}",
		"labels":     "func _() {" + many("_: for{continue};", 6000) + "}",
		"switches":   "func _() int { switch{" + many("case 1:return;", 9000) + "default: return } }",
		"literals":   "var _ = f(" + many("func(){},", 8000) + "); func f() { }",
		"variables":  "func _() { a := 1;" + many("a=a;", 9000) + "}",
		"composites": "type T struct { a int }; var _ = f(" + many("T{a:1},", 7000) + "); func f() { }",
	} {
		x := opened(t, files("a: package main; "+text))
		for n, k := range x.p.Tree(0).Nodes {
			if k.Kind != api.NodeFunc && k.Kind != api.NodeFuncLit {
				continue
			}
			if f := flow.Func(x.p, x.s, x.t, 0, n); f != (api.Fault{}) {
				t.Errorf("L4: many %s: %v", what, f)
			}
		}
		if f := flow.Imports(x.p, x.s, x.t, 0); f != (api.Fault{}) {
			t.Errorf("L6: many %s: %v", what, f)
		}
	}
}
