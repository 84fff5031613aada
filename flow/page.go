package flow

import (
	"moniker/api"
	"moniker/modules"
	"moniker/scope"
)

// page is a file of a program, asked node by node: a copy of all of it would be much for one function.
type page struct {
	p    *modules.Program
	s    *scope.Scopes
	file int
}

// newPage is the page of a node; false: there is no such node, or the two do not belong together.
func newPage(p *modules.Program, s *scope.Scopes, file, node int) (page, bool) {
	if p == nil || s == nil || s.Program() != p {
		return page{}, false
	}
	_, ok := p.Node(file, node)
	return page{p, s, file}, ok
}

func (g page) node(n int) api.Node {
	x, _ := g.p.Node(g.file, n)
	return x
}

func (g page) kind(n int) api.NodeKind { return g.node(n).Kind }

func (g page) first(n int) int { return g.node(n).First }

// behind is the number of the node behind a node and all within it.
func (g page) behind(n int) int { return n + g.node(n).Size }

func (g page) kids(n int) []int {
	var out []int
	for k := n + 1; k < g.behind(n); k = g.behind(k) {
		out = append(out, k)
	}
	return out
}

// around are the nodes around a node, the outermost first.
func (g page) around(n int) []int {
	var out []int
	for k := 0; k < n; {
		if end := g.behind(k); end <= n {
			k = end
			continue
		}
		out = append(out, k)
		k++
	}
	return out
}

func (g page) isFunc(n int) bool {
	return g.kind(n) == api.NodeFunc || g.kind(n) == api.NodeFuncLit
}

func (g page) at(token int) api.Place { return api.Place{File: g.file, Token: token} }

// bound is the declaration that a Name is bound to, made the one that it makes; -1: none.
func (g page) bound(n int) int { return g.s.Bound(g.at(g.first(n))) }

func (g page) made(n int) int { return g.s.Makes(g.at(g.first(n))) }

// markBehind is the kind of the token behind a node.
func (g page) markBehind(n int) api.Kind {
	for k := g.node(n).End; ; k++ {
		x, ok := g.p.Token(g.at(k))
		if !ok || x.Kind != api.TokBlanks && x.Kind != api.TokNote {
			return x.Kind
		}
	}
}

func (g page) fault(why api.Errno, token int) api.Fault {
	x, _ := g.p.Token(g.at(token))
	return api.Fault{Why: why, File: g.file, At: x.From}
}
