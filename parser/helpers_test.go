package parser_test

import (
	"math/rand/v2"
	"slices"
	"strings"
	"testing"

	"moniker/api"
	"moniker/parser"
)

var zero api.Fault

func chance(seed uint64) *rand.Rand { return rand.New(rand.NewPCG(seed, 3)) }

// laid are pieces of these kinds, with blanks and comments between them by chance, and the places of the tokens among them, the number of pieces last. Pieces and bytes have nothing to do with one another, but that no two Froms are alike.
func laid(r *rand.Rand, kinds []api.Kind) (string, []api.Token, []int) {
	var l []api.Token
	var places []int
	put := func(k api.Kind) {
		l = append(l, api.Token{Kind: k, From: 7*len(l) + 3, To: -len(l)})
	}
	between := func() {
		for r.IntN(3) == 0 {
			put([]api.Kind{api.TokBlanks, api.TokNote}[r.IntN(2)])
		}
	}
	for _, k := range kinds {
		between()
		places = append(places, len(l))
		put(k)
	}
	between()
	return strings.Repeat("x", 7*len(l)+1), l, append(places, len(l))
}

// nodesOf is the list of a tree that grew, over pieces with these places.
func nodesOf(s *sprout, places []int) []api.Node {
	n := api.Node{Kind: s.kind, First: places[s.first], End: places[s.first]}
	if s.end > s.first {
		n.End = places[s.end-1] + 1
	}
	out := []api.Node{n}
	for _, kid := range s.kids {
		out = append(out, nodesOf(kid, places)...)
	}
	out[0].Size = len(out)
	return out
}

// stuckAt is the fault of kinds that are laid out, by the number of the token that cannot go on.
func stuckAt(text string, l []api.Token, places []int, n int) api.Fault {
	if n == len(places)-1 {
		return api.Fault{Why: api.ErrParse, At: len(text)}
	}
	return api.Fault{Why: api.ErrParse, At: l[places[n]].From}
}

// parsed is the tree of a text that must be a File.
func parsed(t *testing.T, text string) ([]api.Token, api.Tree) {
	t.Helper()
	l, x, f := parser.File(text)
	if f != zero {
		t.Fatalf("3.1: %.80q: %v", text, f)
	}
	return l, x
}

// refused asks that a list is refused so, and nothing is told beside.
func refused(t *testing.T, text string, l []api.Token, want api.Fault) {
	t.Helper()
	x, f := parser.Parse(text, l)
	if f != want || len(x.Nodes) != 0 {
		t.Fatalf("3.2: kinds %v: %v with %d nodes, not %v", kindsOf(l), f, len(x.Nodes), want)
	}
}

func kindsOf(l []api.Token) []api.Kind {
	var out []api.Kind
	for _, p := range l {
		if p.Kind != api.TokBlanks && p.Kind != api.TokNote {
			out = append(out, p.Kind)
		}
	}
	return out
}

// kidsOf are the numbers of a node's kids in a list that is a tree's.
func kidsOf(nodes []api.Node, n int) []int {
	var out []int
	for k := n + 1; k < n+nodes[n].Size; k += nodes[k].Size {
		out = append(out, k)
	}
	return out
}

// ownOf are the tokens of a node's run that are in no kid's.
func ownOf(l []api.Token, nodes []api.Node, n int) []int {
	var out []int
	kids := kidsOf(nodes, n)
	for i := nodes[n].First; i < nodes[n].End; i++ {
		held := slices.ContainsFunc(kids, func(k int) bool { return nodes[k].First <= i && i < nodes[k].End })
		if !held && l[i].Kind != api.TokBlanks && l[i].Kind != api.TokNote {
			out = append(out, i)
		}
	}
	return out
}
