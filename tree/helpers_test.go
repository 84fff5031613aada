package tree_test

import (
	"math/rand/v2"
	"slices"
	"strings"
	"testing"

	"moniker/api"
	"moniker/parser"
)

func chance(seed uint64) *rand.Rand { return rand.New(rand.NewPCG(seed, 4)) }

// small is the chapter's T, over the pieces package, blanks, a, auto of "package a".
func small() ([]api.Token, api.Tree) {
	l := []api.Token{{Kind: api.TokPackage, From: 0, To: 7}, {Kind: api.TokBlanks, From: 7, To: 8}, {Kind: api.TokName, From: 8, To: 9}, {Kind: api.TokAuto, From: 9, To: 9}}
	return l, api.Tree{Nodes: []api.Node{
		{Kind: api.NodeFile, First: 0, End: 4, Size: 4}, {Kind: api.NodeName, First: 2, End: 3, Size: 1},
		{Kind: api.NodeList, First: 4, End: 4, Size: 1}, {Kind: api.NodeList, First: 4, End: 4, Size: 1},
	}}
}

// with is T with one node changed.
func with(n int, change func(*api.Node)) api.Tree {
	_, t := small()
	change(&t.Nodes[n])
	return t
}

// source is a file with nodes of many kinds, blank names, comments and autos.
const source = `package a // b

import c "d"

type e struct {
	f, _ int
	*c.g
}

func (h *e) i(j, k []map[int]func(l) m) (n, o) {
p:
	for q, _ := range h.f {
		switch r := s.(type) {
		case t, nil:
			continue p
		default:
		}
		if u++; !(v < 1) || /* w
		*/ x[1:](2, "3")[4] {
			return e{f: '5'}, -y.z
		}
	}
	_ = func() {}
}
`

func parsed(t *testing.T, text string) ([]api.Token, api.Tree) {
	t.Helper()
	l, x, f := parser.File(text)
	if f != (api.Fault{}) {
		t.Fatalf("%q: %v", text, f)
	}
	return l, x
}

// edge are numbers that make no sense anywhere, beside small ones.
func edge(r *rand.Rand, most int) int {
	switch r.IntN(12) {
	case 0:
		return -1
	case 1:
		return int(^uint(0) >> 1)
	case 2:
		return -int(^uint(0)>>1) - 1
	case 3:
		return most
	case 4:
		return most + 1
	}
	return r.IntN(most + 1)
}

// anyPieces are pieces by chance, some of which lie in no text.
func anyPieces(r *rand.Rand, most int) []api.Token {
	var l []api.Token
	kinds := []api.Kind{api.TokBlanks, api.TokNote, api.TokName, api.TokName, api.TokAuto, api.TokSemi, api.KindCount, 255}
	for range r.IntN(most + 1) {
		p := api.Token{Kind: kinds[r.IntN(len(kinds))], From: r.IntN(12), To: r.IntN(12)}
		if r.IntN(5) == 0 {
			p.From = edge(r, 12)
		}
		if r.IntN(5) == 0 {
			p.To = edge(r, 12)
		}
		if r.IntN(3) > 0 && p.From > p.To {
			p.From, p.To = p.To, p.From
		}
		l = append(l, p)
	}
	return l
}

// anyTree is a list of nodes by chance: some a tree, some not.
func anyTree(r *rand.Rand, pieces int) api.Tree {
	t := niceTree(r, pieces)
	for range r.IntN(4) {
		n := &t.Nodes[r.IntN(len(t.Nodes))]
		switch r.IntN(4) {
		case 0:
			n.Size = edge(r, 6)
		case 1:
			n.First = edge(r, pieces)
		case 2:
			n.End = edge(r, pieces)
		case 3:
			n.Kind = api.NodeKind(r.IntN(256))
		}
	}
	return t
}

// niceTree is a valid tree over so many pieces.
func niceTree(r *rand.Rand, pieces int) api.Tree {
	first := r.IntN(pieces + 1)
	end := first + r.IntN(pieces-first+1)
	return api.Tree{Nodes: niceNode(r, first, end, pieces, 4)}
}

func niceNode(r *rand.Rand, first, end, pieces, deep int) []api.Node {
	kinds := []api.NodeKind{api.NodeName, api.NodeName, api.NodeList, api.NodeFuncLit, api.NodeKind(r.IntN(int(api.NodeCount)))}
	out := []api.Node{{Kind: kinds[r.IntN(len(kinds))], First: first, End: end}}
	free := first
	for deep > 0 && r.IntN(4) > 0 {
		if r.IntN(3) == 0 {
			at := first + r.IntN(pieces-first+1)
			out = append(out, niceNode(r, at, at, pieces, min(deep-1, 1))...)
			continue
		}
		if free == end {
			break
		}
		from := free + r.IntN(end-free)
		to := from + 1 + r.IntN(end-from)
		out = append(out, niceNode(r, from, to, pieces, deep-1)...)
		free = to
	}
	out[0].Size = len(out)
	return out
}

const someText = "ab_ _ café_x"

// places are what a call may be asked for, sense or not.
func places(r *rand.Rand, t api.Tree) []int {
	out := []int{edge(r, len(t.Nodes))}
	for n := range t.Nodes {
		out = append(out, n)
	}
	return append(out, -1, len(t.Nodes))
}

// The calls by the chapter's words, without a thought of how long they take.

func wordKids(t api.Tree, n int) ([]int, bool) {
	if n < 0 || n >= len(t.Nodes) || t.Nodes[n].Size < 1 || t.Nodes[n].Size > len(t.Nodes)-n {
		return nil, false
	}
	var out []int
	k := n + 1
	for k < n+t.Nodes[n].Size {
		if t.Nodes[k].Size < 1 || t.Nodes[k].Size > len(t.Nodes) {
			return nil, false
		}
		out = append(out, k)
		k += t.Nodes[k].Size
	}
	return out, k == n+t.Nodes[n].Size
}

func wordNested(t api.Tree) bool {
	if len(t.Nodes) == 0 || t.Nodes[0].Size != len(t.Nodes) {
		return false
	}
	for n := range t.Nodes {
		if _, ok := wordKids(t, n); !ok || t.Nodes[n].Kind >= api.NodeCount {
			return false
		}
	}
	return true
}

func wordValid(t api.Tree, pieces int) bool {
	if !wordNested(t) {
		return false
	}
	for n, node := range t.Nodes {
		if node.First < 0 || node.First > node.End || node.End > pieces {
			return false
		}
		kids, _ := wordKids(t, n)
		for i, k := range kids {
			kid := t.Nodes[k]
			if kid.First == kid.End {
				if kid.First < node.First {
					return false
				}
				continue
			}
			if kid.First < node.First || kid.End > node.End {
				return false
			}
			for _, other := range kids[:i] {
				if o := t.Nodes[other]; o.First != o.End && kid.First < o.End {
					return false
				}
			}
		}
	}
	return true
}

func wordTokens(l []api.Token, node api.Node) []int {
	var out []int
	for i, p := range l {
		if node.First <= i && i < node.End && p.Kind != api.TokBlanks && p.Kind != api.TokNote {
			out = append(out, i)
		}
	}
	return out
}

func wordOf(text string, p api.Token) string {
	if 0 <= p.From && p.From <= p.To && p.To <= len(text) {
		return text[p.From:p.To]
	}
	return ""
}

func wordOwn(l []api.Token, t api.Tree, n int) []int {
	if n < 0 || n >= len(t.Nodes) {
		return nil
	}
	kids, ok := wordKids(t, n)
	if !ok {
		kids = nil
	}
	return slices.DeleteFunc(wordTokens(l, t.Nodes[n]), func(i int) bool {
		return slices.ContainsFunc(kids, func(k int) bool { return t.Nodes[k].First <= i && i < t.Nodes[k].End })
	})
}

func wordKinds(l []api.Token, node api.Node) []api.Kind {
	var out []api.Kind
	for _, i := range wordTokens(l, node) {
		out = append(out, l[i].Kind)
	}
	return out
}

func wordSame(l []api.Token, a api.Tree, m []api.Token, b api.Tree) bool {
	return slices.EqualFunc(a.Nodes, b.Nodes, func(x, y api.Node) bool {
		return x.Kind == y.Kind && x.Size == y.Size && slices.Equal(wordKinds(l, x), wordKinds(m, y))
	})
}

func wordText(text string, l []api.Token, t api.Tree, n int) string {
	if n < 0 || n >= len(t.Nodes) {
		return ""
	}
	var words []string
	for _, i := range wordTokens(l, t.Nodes[n]) {
		if w := wordOf(text, l[i]); w != "" {
			words = append(words, w)
		}
	}
	return strings.Join(words, " ")
}

var kindNames = strings.Fields(`None List File Import ImportSpec Const Var Types ConstSpec VarSpec TypeSpec Func Recv Sig Param Struct Field Embed
	Interface Method Shape Star SliceOf MapOf FuncOf Paren Select Block If Switch Match Case Default For Range Label Return Break Continue Fall Empty
	Do Step Assign Define Name Number Char Text Binary Sign Index Slice Assert Call FuncLit Composite Pair`)

func wordSketch(t api.Tree, n int) string {
	s := kindNames[t.Nodes[n].Kind]
	kids, _ := wordKids(t, n)
	var within []string
	for _, k := range kids {
		within = append(within, wordSketch(t, k))
	}
	if len(within) > 0 {
		s += "(" + strings.Join(within, " ") + ")"
	}
	return s
}
