package parser_test

import (
	"slices"
	"strings"
	"sync"
	"testing"

	"moniker/api"
	"moniker/parser"
)

// sample has a node of nearly every kind.
const sample = `// x
package a

import b "c"

const (
	d, e = iota, 'f'
	g
)

type h struct {
	i, j int
	*b.k
}

type l interface {
	m([]map[o]p) (q, r)
	s
}

func (t *h) u(v, w func(x) y) z {
L:
	for i := range t.j {
		switch i := x.(type) {
		case nil, *h:
			continue L
		default:
		}
		if i++; !(i < 1) || b[1:](2)[3] {
			return h{i: "4"}
		} else {
			fallthrough
		}
	}
	_ = func() {}
}
`

// TestNothingChanged: what is handed in stands as it stood, its spare room too, and is not kept (3.6, P4).
func TestNothingChanged(t *testing.T) {
	l, want := parsed(t, sample)
	room := append(slices.Clone(l), make([]api.Token, 50)...)
	for i := range 50 {
		room[len(l)+i] = api.Token{Kind: 99, From: -1, To: -2}
	}
	given := slices.Clone(room)
	x, f := parser.Parse(sample, given[:len(l)])
	if f != zero || !slices.Equal(given, room) {
		t.Errorf("3.6: the pieces were changed: %v", f)
	}
	clear(given)
	if !slices.Equal(x.Nodes, want.Nodes) {
		t.Error("3.6: the pieces were kept")
	}
	nodes := slices.Clone(want.Nodes)
	if parser.Depth(want) < 8 || !slices.Equal(nodes, want.Nodes) {
		t.Error("3.6: Depth changed its tree")
	}
}

// TestNewMemory: no answer shares memory with another, and none keeps it (3.6, P4).
func TestNewMemory(t *testing.T) {
	l, x := parsed(t, sample)
	m, y := parsed(t, sample)
	for i := range l[:cap(l)] {
		l[:cap(l)][i] = api.Token{Kind: 99}
	}
	for i := range x.Nodes[:cap(x.Nodes)] {
		x.Nodes[:cap(x.Nodes)][i] = api.Node{Kind: 99}
	}
	n, z := parsed(t, sample)
	if !slices.Equal(m, n) || !slices.Equal(y.Nodes, z.Nodes) {
		t.Error("3.6: an answer changed with another")
	}
}

// TestSameAnswers: an answer hangs on the arguments alone, whoever asks at the same time (P5).
func TestSameAnswers(t *testing.T) {
	l, want := parsed(t, sample)
	var wait sync.WaitGroup
	got := make([]api.Tree, 8)
	for i := range got {
		wait.Go(func() { got[i], _ = parser.Parse(sample, l) })
	}
	wait.Wait()
	for _, x := range got {
		if !slices.Equal(x.Nodes, want.Nodes) {
			t.Fatal("P5: another tree")
		}
	}
}

// TestNothingButKinds: names, literals, blanks and comments, Froms and Tos make no other tree (3.9).
func TestNothingButKinds(t *testing.T) {
	l, x := parsed(t, sample)
	other := strings.NewReplacer("package a", "package/**/abc", "iota", "_", "'f'", "'\\n'", "\"4\"", "`x\ny`", "\n\n", "\n \n// y\n").Replace(sample)
	m, y := parsed(t, other)
	if len(m) == len(l) {
		t.Fatal("as many pieces")
	}
	sameNodes(t, l, x, m, y)
	odd := slices.Clone(l)
	for i := range odd {
		odd[i].From, odd[i].To = -i*i, 1<<40-i
	}
	y, f := parser.Parse("", odd)
	if f != zero || !slices.Equal(x.Nodes, y.Nodes) {
		t.Errorf("3.9: %v", f)
	}
}

// sameNodes asks that two trees are the same but for the numbers of pieces: First and End stand at the same tokens.
func sameNodes(t *testing.T, l []api.Token, x api.Tree, m []api.Token, y api.Tree) {
	t.Helper()
	if len(x.Nodes) != len(y.Nodes) {
		t.Fatalf("3.9: %d nodes, not %d", len(y.Nodes), len(x.Nodes))
	}
	ahead := func(l []api.Token, end int) int { return len(kindsOf(l[:end])) }
	for n, a := range x.Nodes {
		b := y.Nodes[n]
		if a.Kind != b.Kind || a.Size != b.Size || ahead(l, a.First) != ahead(m, b.First) || ahead(l, a.End) != ahead(m, b.End) {
			t.Fatalf("3.9: node %d is %v, not %v", n, b, a)
		}
	}
}

// TestWrongPieces: lists that are no scanner's have their answers too (3.2, P1).
func TestWrongPieces(t *testing.T) {
	at := func(n int) api.Fault { return api.Fault{Why: api.ErrParse, At: n} }
	tok := func(k api.Kind, from int) api.Token { return api.Token{Kind: k, From: from} }
	refused(t, "", nil, at(0))
	refused(t, "abc", []api.Token{}, at(3))
	refused(t, "abc", []api.Token{tok(api.TokBlanks, 0), tok(api.TokNote, 9)}, at(3))
	refused(t, "abc", []api.Token{tok(api.TokPackage, 9)}, at(3))
	refused(t, "abc", []api.Token{tok(api.TokPackage, 9), tok(api.TokName, 8)}, at(3))
	refused(t, "abc", []api.Token{tok(api.TokPackage, 9), tok(api.TokName, 8), tok(api.TokSemi, -7), tok(api.TokAuto, -6)}, at(-6))
	for k := 0; k < 256; k++ {
		if k := api.Kind(k); k >= api.KindCount {
			refused(t, "abc", []api.Token{tok(k, 99)}, at(99))
			refused(t, "abc", []api.Token{tok(api.TokPackage, 1), tok(k, -4)}, at(-4))
			head := []api.Token{tok(api.TokPackage, 1), tok(api.TokName, 2), tok(api.TokSemi, 3)}
			refused(t, "abc", append(head, tok(k, 55)), at(55))
			refused(t, "abc", append(head, tok(api.TokVar, 4), tok(api.TokName, 5), tok(api.TokIs, 6), tok(api.TokName, 7), tok(k, 55)), at(55))
		}
	}
	if x, f := parser.Parse("", []api.Token{tok(api.TokPackage, 0), tok(api.TokName, 0), tok(api.TokAuto, 0)}); f != zero || len(x.Nodes) != 4 {
		t.Errorf("3.1: %v %v", x, f)
	}
	l, _ := parsed(t, sample)
	if _, f := parser.Parse("of another text", l); f != zero {
		t.Errorf("3.1: %v", f)
	}
	if l, x, f := parser.File("package a #"); f != (api.Fault{Why: api.ErrByte, At: 10}) || len(l) != 0 || len(x.Nodes) != 0 {
		t.Errorf("3.5: %v", f)
	}
	if l, x, f := parser.File("no package 'x"); f != (api.Fault{Why: api.ErrQuote, At: 11}) || len(l) != 0 || len(x.Nodes) != 0 {
		t.Errorf("3.5: %v", f)
	}
}

// TestBlocksChanged: a Block in braces may stand in another's place, and its tree with it (3.10).
func TestBlocksChanged(t *testing.T) {
	r := chance(5)
	done := 0
	for done < 2000 {
		kinds, a := grown(r, 5+r.IntN(60))
		others, b := grown(r, 5+r.IntN(60))
		into, from := braced(kinds, a), braced(others, b)
		if len(into) == 0 || len(from) == 0 {
			continue
		}
		done++
		old, block := into[r.IntN(len(into))], from[r.IntN(len(from))]
		all := slices.Concat(kinds[:old.first], others[block.first:block.end], kinds[old.end:])
		text, l, places := laid(r, all)
		x, f := parser.Parse(text, l)
		if want := nodesOf(changed(a, old, block), places); f != zero || !slices.Equal(x.Nodes, want) {
			t.Fatalf("3.10: %v:\n%v\n%v, not\n%v", all, f, x.Nodes, want)
		}
	}
}

// braced are the Blocks in braces of a tree.
func braced(kinds []api.Kind, s *sprout) []*sprout {
	var out []*sprout
	if s.kind == api.NodeBlock && s.first < s.end && kinds[s.first] == api.TokBegin {
		out = append(out, s)
	}
	for _, kid := range s.kids {
		out = append(out, braced(kinds, kid)...)
	}
	return out
}

// changed is a tree with a Block in the place of an old one.
func changed(s, old, block *sprout) *sprout {
	if s == old {
		return moved(block, func(at int) int { return at - block.first + old.first })
	}
	behind := func(at int) int {
		if at >= old.end {
			at += block.end - block.first - (old.end - old.first)
		}
		return at
	}
	out := &sprout{s.kind, behind(s.first), behind(s.end), nil}
	for _, kid := range s.kids {
		out.kids = append(out.kids, changed(kid, old, block))
	}
	return out
}

func moved(s *sprout, to func(int) int) *sprout {
	out := &sprout{s.kind, to(s.first), to(s.end), nil}
	for _, kid := range s.kids {
		out.kids = append(out.kids, moved(kid, to))
	}
	return out
}
