package tree

import (
	"strings"

	"moniker/api"
)

// At is the innermost node whose bytes hold the place.
func At(l []api.Token, t api.Tree, offset int) int {
	return first(asked(down(len(t.Nodes)), func(n int) bool {
		node := t.Nodes[n]
		if node.First < 0 || node.First >= node.End || node.End > len(l) {
			return false
		}
		return l[node.First].From <= offset && offset < l[node.End-1].To
	}))
}

// Own are the tokens of a node that are none of its kids'.
func Own(l []api.Token, t api.Tree, n int) []int {
	if !isNode(t, n) {
		return nil
	}
	begin, end := span(t.Nodes[n], len(l))
	turns := make([]int, end-begin+1) // at a piece: how many kids' runs begin there, less how many end there
	for _, k := range Kids(t, n) {
		from, to := span(t.Nodes[k], len(l))
		turns[min(max(from, begin), end)-begin]++
		turns[min(max(to, begin), end)-begin]--
	}
	var out []int
	around := 0
	for i, p := range l[begin:end] {
		around += turns[i]
		if around == 0 && isToken(p.Kind) {
			out = append(out, begin+i)
		}
	}
	return out
}

// span is the part of a node's run that lies in a list of so many pieces.
func span(node api.Node, pieces int) (begin, end int) {
	begin = min(max(node.First, 0), pieces)
	return begin, min(max(node.End, begin), pieces)
}

func isToken(k api.Kind) bool { return k != api.TokBlanks && k != api.TokNote }

// Names are the occurrences: the identifier tokens that are not blank.
func Names(text string, l []api.Token, t api.Tree) []int {
	var out []int
	for _, node := range t.Nodes {
		at := node.First
		if node.Kind != api.NodeName || at < 0 || at >= len(l) || l[at].Kind != api.TokName {
			continue
		}
		if w := word(text, l[at]); w != "" && w != "_" {
			out = append(out, at)
		}
	}
	return out
}

// word is the bytes of a piece; "", if they do not lie in the text.
func word(text string, p api.Token) string {
	if p.From < 0 || p.From > p.To || p.To > len(text) {
		return ""
	}
	return text[p.From:p.To]
}

// Text is what a node says: its tokens without the pieces between, one blank between two.
func Text(text string, l []api.Token, t api.Tree, n int) string {
	if !isNode(t, n) {
		return ""
	}
	var out strings.Builder
	begin, end := span(t.Nodes[n], len(l))
	for _, p := range l[begin:end] {
		w := word(text, p)
		if !isToken(p.Kind) || w == "" {
			continue
		}
		if out.Len() > 0 {
			out.WriteByte(' ')
		}
		out.WriteString(w)
	}
	return out.String()
}

// Same tells whether two trees have one shape: kinds, kids, and the kinds of their tokens.
func Same(l []api.Token, a api.Tree, m []api.Token, b api.Tree) bool {
	if len(a.Nodes) != len(b.Nodes) {
		return false
	}
	left, right := kindsOf(l), kindsOf(m)
	for n, x := range a.Nodes {
		y := b.Nodes[n]
		if x.Kind != y.Kind || x.Size != y.Size || left.of(x) != right.of(y) {
			return false
		}
	}
	return true
}

// kinds are those of a list's tokens, a byte each, as texts are compared at once.
type kinds struct {
	all   string
	ahead []int // how many tokens stand ahead of each piece, and of the end
}

func kindsOf(l []api.Token) kinds {
	var all strings.Builder
	ahead := make([]int, 0, len(l)+1)
	for _, p := range l {
		ahead = append(ahead, all.Len())
		if isToken(p.Kind) {
			all.WriteByte(byte(p.Kind))
		}
	}
	return kinds{all.String(), append(ahead, all.Len())}
}

// of are the kinds of the tokens in a node's run.
func (k kinds) of(node api.Node) string {
	begin, end := span(node, len(k.ahead)-1)
	return k.all[k.ahead[begin]:k.ahead[end]]
}
