package tree_test

import (
	"math/rand/v2"
	"slices"
	"strings"
	"testing"

	"moniker/api"
	"moniker/tree"
)

func TestSketch(t *testing.T) {
	_, T := small()
	for _, c := range []struct {
		t    api.Tree
		want string
	}{
		{T, "File(Name List List)"}, {api.Tree{}, ""}, {api.Tree{Nodes: []api.Node{{Size: 1}}}, "None"}, {with(1, func(x *api.Node) { x.Size = 2 }), "File(Name(List) List)"}, {with(1, func(x *api.Node) { x.Size = 3 }), "File(Name(List List))"}, {with(1, func(x *api.Node) { x.Size = 4 }), ""}, {with(1, func(x *api.Node) { x.First, x.End = most, -most }), "File(Name List List)"},
		{with(0, func(x *api.Node) { x.Size = 3 }), ""}, {with(0, func(x *api.Node) { x.Size = 5 }), ""}, {with(3, func(x *api.Node) { x.Size = 0 }), ""}, {with(3, func(x *api.Node) { x.Size = most }), ""}, {with(3, func(x *api.Node) { x.Kind = api.NodeCount }), ""}, {with(0, func(x *api.Node) { x.Kind = 255 }), ""},
	} {
		if got := tree.Sketch(c.t); got != c.want {
			t.Errorf("4.10: Sketch(%v) = %q, not %q", c.t, got, c.want)
		}
	}
	for k, name := range kindNames {
		if got := tree.Sketch(api.Tree{Nodes: []api.Node{{Kind: api.NodeKind(k), Size: 1}}}); got != name {
			t.Errorf("4.10: kind %d is %q, not %q", k, got, name)
		}
	}
	if len(kindNames) != int(api.NodeCount) {
		t.Errorf("%d names", len(kindNames))
	}
}

// drawn asks that a text is a tree's of these kinds and Sizes.
func drawn(t *testing.T, s string, want []api.Node) {
	t.Helper()
	x, e, at := tree.Draw(s)
	for i := range want {
		want[i].First, want[i].End = 0, 0
	}
	if e != api.OK || at != 0 || !slices.Equal(x.Nodes, want) {
		t.Fatalf("4.11: Draw(%q) = %v, %d at %d, not %v", s, x, e, at, want)
	}
}

func notDrawn(t *testing.T, s string, want int) {
	t.Helper()
	if x, e, at := tree.Draw(s); e != api.ErrSketch || at != want || len(x.Nodes) != 0 {
		t.Fatalf("4.11: Draw(%q) = %v, %d at %d, not at %d", s, x, e, at, want)
	}
}

func TestDraw(t *testing.T) {
	_, T := small()
	drawn(t, "File(Name List List)", T.Nodes)
	drawn(t, "None", []api.Node{{Size: 1}})
	drawn(t, "If(None Name Block(Do(Call(Name List))) None)", []api.Node{{Kind: api.NodeIf, Size: 9}, {Size: 1}, {Kind: api.NodeName, Size: 1}, {Kind: api.NodeBlock, Size: 5}, {Kind: api.NodeDo, Size: 4}, {Kind: api.NodeCall, Size: 3}, {Kind: api.NodeName, Size: 1}, {Kind: api.NodeList, Size: 1}, {Size: 1}})
	for _, c := range []struct {
		s  string
		at int
	}{
		{"", 0}, {"File(", 5}, {"File()", 5}, {"Fil", 3}, {"Fix", 2}, {"FuncL", 5}, {"FuncLx", 5}, {"FuncX", 4}, {"Func Func", 4}, {"List(Name  Name)", 10}, {"List(Name", 9}, {"List(Name))", 10}, {"ImportSpecs", 10}, {"ImportSpe", 9}, {" File", 0}, {"File ", 4}, {"File)", 4}, {"file", 0}, {"(", 0}, {")", 0},
		{"List(Name )", 10}, {"List( Name)", 5}, {"List(Name)Name", 10}, {"List(Name) ", 10}, {"List(Name)(Name)", 10}, {"List(Name(Name) Name", 20}, {"List(Name\tName)", 9}, {"List(Names)", 9}, {"List((Name))", 5}, {"List(Name,Name)", 9}, {"FuncLit(FuncOf Func Fu", 22}, {"FuncLit(FuncOf Func Fub", 22}, {"\xff", 0}, {"File\x00", 4}, {"Step(Star)Sta", 10},
	} {
		notDrawn(t, c.s, c.at)
	}
}

// stuckAt is where a text can go on no more, byte by byte: the length, if it only ends too early; -1, if it is whole.
func stuckAt(s string) int {
	depth, name, closed := 0, "", false
	isName := func(n string) bool { return slices.Contains(kindNames, n) }
	begins := func(n string) bool {
		return slices.ContainsFunc(kindNames, func(name string) bool { return strings.HasPrefix(name, n) })
	}
	for i := range len(s) {
		done := closed || isName(name)
		switch c := s[i]; {
		case !closed && begins(name+string(rune(c))):
			name += string(rune(c))
		case c == '(' && !closed && done:
			depth, name = depth+1, ""
		case c == ' ' && depth > 0 && done:
			name, closed = "", false
		case c == ')' && depth > 0 && done:
			depth, name, closed = depth-1, "", true
		default:
			return i
		}
	}
	if depth == 0 && (closed || isName(name)) {
		return -1
	}
	return len(s)
}

func TestDrawByBytes(t *testing.T) {
	r := chance(6)
	wholes := 0
	for range 30000 {
		s := tree.Sketch(niceTree(r, 5))
		switch r.IntN(5) {
		case 0:
			s = s[:r.IntN(len(s)+1)]
		case 1:
			at := r.IntN(len(s))
			s = s[:at] + s[at+1:]
		case 2:
			at := r.IntN(len(s) + 1)
			s = s[:at] + someBit(r) + s[at:]
		case 3:
			s = ""
			for range r.IntN(8) {
				s += someBit(r)
			}
		}
		if at := stuckAt(s); at >= 0 {
			notDrawn(t, s, at)
			continue
		}
		wholes++
		x, e, at := tree.Draw(s)
		if e != api.OK || at != 0 || tree.Sketch(x) != s {
			t.Fatalf("4.16: Draw(%q) = %v, %d at %d", s, x, e, at)
		}
	}
	if wholes < 3000 {
		t.Errorf("only %d trees", wholes)
	}
}

func someBit(r *rand.Rand) string {
	bits := []string{"(", ")", " ", " ", "(", ")", "x", "F", "e", "\n", "\x80"}
	if r.IntN(2) == 0 {
		return kindNames[r.IntN(len(kindNames))]
	}
	return bits[r.IntN(len(bits))]
}

func TestSketchByWords(t *testing.T) {
	r := chance(7)
	for range 20000 {
		x := anyTree(r, 6)
		want := ""
		if wordNested(x) {
			want = wordSketch(x, 0)
		}
		s := tree.Sketch(x)
		if s != want {
			t.Fatalf("4.10: Sketch(%v) = %q, not %q", x, s, want)
		}
		if s != "" {
			drawn(t, s, slices.Clone(x.Nodes))
		}
	}
	_, x := parsed(t, source)
	drawn(t, tree.Sketch(x), slices.Clone(x.Nodes))
}

// TestFar: long lists and deep ones have their answers (P1).
func TestFar(t *testing.T) {
	const n = 100000
	var deep, wide api.Tree
	for i := range n {
		deep.Nodes = append(deep.Nodes, api.Node{Kind: api.NodeParen, End: n, Size: n - i})
		wide.Nodes = append(wide.Nodes, api.Node{Kind: api.NodeName, First: i, End: i, Size: 1})
	}
	wide.Nodes[0] = api.Node{Kind: api.NodeList, End: n, Size: n}
	l := make([]api.Token, n)
	for i := range l {
		l[i] = api.Token{Kind: api.TokName, From: i, To: i + 1}
	}
	for _, x := range []api.Tree{deep, wide} {
		s := tree.Sketch(x)
		y, e, _ := tree.Draw(s)
		if !tree.Valid(x, n) || e != api.OK || len(y.Nodes) != n || tree.Sketch(y) != s || !tree.Same(l, x, l, x) {
			t.Errorf("4.10: %.40q", s)
		}
	}
	if len(tree.Kids(wide, 0)) != n-1 || tree.Up(wide, n-1) != 0 || tree.Up(deep, n-1) != n-2 || tree.At(l, deep, 5) != n-1 || len(tree.Own(l, wide, 0)) != n {
		t.Error("4.2")
	}
	notDrawn(t, strings.Repeat("List(", n), 5*n)
}
