package parser_test

import (
	"slices"
	"strings"
	"testing"

	"moniker/api"
	"moniker/lexer"
	"moniker/parser"
)

// filled is a file of just so many pieces: "package a" with comments behind it.
func filled(pieces int) (string, []api.Token) {
	l, _ := lexer.Scan("package a")
	for len(l) < pieces {
		l = append(l, api.Token{Kind: api.TokNote, From: 9, To: 9})
	}
	return "package a", l
}

func TestManyPieces(t *testing.T) {
	text, l := filled(api.MaxPieces)
	x, f := parser.Parse(text, l)
	if f != zero || len(x.Nodes) != 4 || x.Nodes[0].End != 4 || x.Nodes[3].First != api.MaxPieces {
		t.Errorf("3.1: at the limit: %v %v", x, f)
	}
	text, l = filled(api.MaxPieces + 1)
	refused(t, text, l, api.Fault{Why: api.ErrMany})
	refused(t, "", make([]api.Token, api.MaxPieces+1), api.Fault{Why: api.ErrMany})
	refused(t, "xyz", make([]api.Token, api.MaxPieces), api.Fault{Why: api.ErrParse, At: 3})
	if l, x, f := parser.File("package a" + strings.Repeat(";", api.MaxPieces)); f != (api.Fault{Why: api.ErrMany}) || len(l) != 0 || len(x.Nodes) != 0 {
		t.Errorf("3.5: %v", f)
	}
	if l, _, f := parser.File("package a;var x=" + strings.Repeat("1+", 100) + "1"); f != zero || len(l) != 210 {
		t.Errorf("3.5: %v with %d pieces", f, len(l))
	}
}

func nest(n int, before, in, after string) string {
	return "package a; var x = " + strings.Repeat(before, n) + in + strings.Repeat(after, n) + "\n"
}

// depthOf is Depth by its words: 1 of a node without kids, else one more than its deepest kid's.
func depthOf(nodes []api.Node, n int) int {
	deepest := 0
	for _, k := range kidsOf(nodes, n) {
		deepest = max(deepest, depthOf(nodes, k))
	}
	return deepest + 1
}

func TestDeep(t *testing.T) {
	const head = len("package a; var x = ")
	for _, c := range []struct {
		text      string
		depth, at int // at: where ErrDeep stands; -1: nowhere
	}{
		{nest(250, "(", "1", ")"), 256, -1}, {nest(251, "(", "1", ")"), 0, head + 251}, {nest(252, "(", "1", ")"), 0, head + 251}, {nest(9000, "(", "1", ")"), 0, head + 251},
		{nest(250, "+ ", "1", ""), 256, -1}, {nest(251, "+ ", "1", ""), 0, head + 2*251},
		{nest(250, "1+", "1", ""), 256, -1}, {nest(251, "1+", "1", ""), 0, head}, {nest(20000, "1+", "1", ""), 0, head},
		{nest(125, "f(", "1", ")"), 256, -1}, {nest(126, "f(", "1", ")"), 0, head + 2*125},
		{nest(125, "f(", "", ")"), 255, -1}, {nest(126, "f(", "", ")"), 0, head + 2*125},
		{nest(124, "f(", "T{}", ")"), 255, -1}, {nest(125, "f(", "T{}", ")"), 0, head + 2*125},
		{nest(248, "(", "func(){}", ")"), 256, -1}, {nest(249, "(", "func(){}", ")"), 0, head + 249 + len("func(")}, // an empty list alone lies too deep
		{nest(250, "[]", "T", ""), 256, -1}, {nest(251, "[]", "T", ""), 0, head + 2*251},
	} {
		l, x, f := parser.File(c.text)
		if c.at >= 0 {
			if f != (api.Fault{Why: api.ErrDeep, At: c.at}) || len(l) != 0 || len(x.Nodes) != 0 {
				t.Errorf("3.3: %.40q: %v, not at %d", c.text, f, c.at)
			}
			continue
		}
		if f != zero || parser.Depth(x) != c.depth || depthOf(x.Nodes, 0) != c.depth {
			t.Errorf("3.3: %.40q: %v, depth %d", c.text, f, parser.Depth(x))
		}
	}
}

// TestDeepest: as deep as the pieces allow, the answer is the same sort of thing, and a token that cannot go on comes first (3.2, 3.3, P1).
func TestDeepest(t *testing.T) {
	stmt := func(n int, before, in, after string) string {
		return "package a; func f() { " + strings.Repeat(before, n) + in + strings.Repeat(after, n) + " }"
	}
	for _, text := range []string{
		nest(32000, "(", "1", ")"), nest(60000, "*", "p", ""), nest(30000, "[]", "T", ""), nest(20000, "f(", "1", ")"), nest(13000, "[]T{", "1", "}"), nest(6000, "func(){x=", "1", "}"), nest(30000, "a+", "a", ""),
		nest(30000, "a.", "a", ""), nest(20000, "a[", "1", "]"), nest(13000, "[]func(", "", ")"), nest(16000, "map[", "a", "]b"),
		stmt(30000, "{", "", "}"), stmt(30000, "L:", "", ""), stmt(9000, "if a{}else ", "{}", ""), stmt(13000, "if a{", "", "}"), stmt(20000, "for{", "", "}"), stmt(9000, "switch{case a:", "", "}"),
	} {
		l, f := lexer.Scan(text)
		if f != zero || len(l) > api.MaxPieces {
			t.Fatalf("%.40q: %v, %d pieces", text, f, len(l))
		}
		if _, f := parser.Parse(text, l); f.Why != api.ErrDeep {
			t.Errorf("3.3: %.40q: %v", text, f)
		}
		kept := slices.Clone(l[:len(l)-3])
		refused(t, text, kept, api.Fault{Why: api.ErrParse, At: len(text)})
		refused(t, text, append(kept, api.Token{Kind: api.TokGoto, From: 77}), api.Fault{Why: api.ErrParse, At: 77})
	}
}

// TestWork: the work grows with the number of pieces: a long file takes about as many allocations for each piece as a short one (3.6).
func TestWork(t *testing.T) {
	for _, part := range []string{"a+", "a.", "f(a)[b]+", "[]T{a,b}+"} {
		var each [2]float64
		for i, n := range []int{500, 4000} {
			text := nest(n, part, "a", "")
			l, _ := lexer.Scan(text)
			each[i] = testing.AllocsPerRun(3, func() { parser.Parse(text, l) }) / float64(len(l))
		}
		if each[1] > 1.5*each[0] {
			t.Errorf("3.6: %q: %v allocations a piece", part, each)
		}
	}
}

func TestDepth(t *testing.T) {
	sizes := func(all ...int) api.Tree {
		var x api.Tree
		for _, s := range all {
			x.Nodes = append(x.Nodes, api.Node{Kind: 200, First: -5, End: -9, Size: s})
		}
		return x
	}
	const most = int(^uint(0) >> 1)
	for _, c := range []struct {
		x    api.Tree
		want int
	}{
		{sizes(), 0}, {sizes(1), 1}, {sizes(2, 1), 2}, {sizes(3, 2, 1), 3}, {sizes(3, 1, 1), 2}, {sizes(5, 1, 2, 1, 1), 3}, {sizes(6, 2, 1, 3, 2, 1), 4},
		{sizes(2), 0}, {sizes(1, 1), 0}, {sizes(0), 0}, {sizes(-1), 0}, {sizes(2, 0), 0}, {sizes(2, 2), 0}, {sizes(2, -1), 0}, {sizes(3, 1), 0}, {sizes(3, 2, 2), 0}, {sizes(3, 3, 1), 0}, {sizes(3, 1, 0), 0}, {sizes(4, 2, 2, 1), 0},
		{sizes(most, 1), 0}, {sizes(2, most), 0}, {sizes(3, 1, most), 0}, {sizes(3, -most-1, 1), 0}, {sizes(3, most, most), 0},
	} {
		if got := parser.Depth(c.x); got != c.want {
			t.Errorf("3.4: %v: %d, not %d", c.x, got, c.want)
		}
	}
	deep := sizes()
	for n := range 100000 {
		deep.Nodes = append(deep.Nodes, api.Node{Size: 100000 - n})
	}
	if got := parser.Depth(deep); got != 100000 {
		t.Errorf("3.4: %d", got)
	}
}

// TestDepthOfAny: of all lists of small Sizes the Depth by its words, and 0 of those that are no tree's (3.4).
func TestDepthOfAny(t *testing.T) {
	var ask func(x []api.Node, left int)
	ask = func(x []api.Node, left int) {
		want := 0
		if end := wellNested(x, 0); len(x) > 0 && end == len(x) {
			want = depthOf(x, 0)
		}
		if got := parser.Depth(api.Tree{Nodes: x}); got != want {
			t.Fatalf("3.4: %v: %d, not %d", x, got, want)
		}
		if left == 0 {
			return
		}
		for s := -1; s <= 6; s++ {
			ask(append(slices.Clip(x), api.Node{Size: s}), left-1)
		}
	}
	ask(nil, 5)
}

// wellNested is the place behind a node whose kids fill it, and theirs them; -1: they do not.
func wellNested(x []api.Node, n int) int {
	if n >= len(x) || x[n].Size < 1 {
		return -1
	}
	end := n + x[n].Size
	for k := n + 1; k != end; {
		if k > end || k < 0 {
			return -1
		}
		k = wellNested(x, k)
	}
	return end
}
