package flow

import (
	"slices"

	"moniker/api"
	"moniker/scope"
)

// statement is what a node is to those who ask whether it ends its function.
type statement interface{ isStatement() }

// over ends by itself: a Return, a call of panic.
type over struct{}

// sequence ends with its last statement.
type sequence struct{ last int }

// branch ends where both of its ways do.
type branch struct{ then, other int }

// circle ends where nothing leaves it: a For without a condition.
type circle struct{ node int }

// choice ends where all of its Blocks do, one of them is a Default's, and nothing leaves it.
type choice struct {
	node       int
	blocks     []int
	hasDefault bool
}

// labelled ends with the statement behind its label.
type labelled struct{ of int }

// other never ends.
type other struct{}

func (over) isStatement()     {}
func (sequence) isStatement() {}
func (branch) isStatement()   {}
func (circle) isStatement()   {}
func (choice) isStatement()   {}
func (labelled) isStatement() {}
func (other) isStatement()    {}

func (g page) statement(n int) statement {
	kids := g.kids(n)
	switch g.kind(n) {
	case api.NodeReturn:
		return over{}
	case api.NodeDo:
		if g.isPanic(kids[0]) {
			return over{}
		}
	case api.NodeBlock:
		return sequence{g.lastOf(kids)}
	case api.NodeIf:
		return branch{kids[2], kids[3]}
	case api.NodeFor:
		if g.kind(kids[1]) == api.NodeNone {
			return circle{n}
		}
	case api.NodeSwitch, api.NodeMatch:
		return g.choice(n, kids[len(kids)-1])
	case api.NodeLabel:
		return labelled{kids[1]}
	}
	return other{}
}

func (g page) isPanic(n int) bool {
	if g.kind(n) != api.NodeCall {
		return false
	}
	f := g.kids(n)[0]
	return g.kind(f) == api.NodeName && g.bound(f) == scope.Universe("panic")
}

// lastOf is the last of some statements that is no Empty; -1: there is none.
func (g page) lastOf(list []int) int {
	for _, n := range slices.Backward(list) {
		if g.kind(n) != api.NodeEmpty {
			return n
		}
	}
	return -1
}

func (g page) choice(n, clauses int) choice {
	out := choice{node: n}
	for _, c := range g.kids(clauses) {
		kids := g.kids(c)
		out.blocks = append(out.blocks, kids[len(kids)-1])
		out.hasDefault = out.hasDefault || g.kind(c) == api.NodeDefault
	}
	return out
}

func (g page) ends(n int) bool {
	switch x := g.statement(n).(type) {
	case over:
		return true
	case sequence:
		return x.last >= 0 && g.ends(x.last)
	case branch:
		return g.ends(x.then) && g.ends(x.other)
	case circle:
		return !g.isLeft(x.node)
	case choice:
		goesOn := func(block int) bool { return !g.ends(block) && !g.falls(block) }
		return x.hasDefault && !slices.ContainsFunc(x.blocks, goesOn) && !g.isLeft(x.node)
	case labelled:
		return g.ends(x.of)
	}
	return false
}

// falls tells whether a clause's Block goes on with the next clause.
func (g page) falls(block int) bool {
	last := g.lastOf(g.kids(block))
	return last >= 0 && g.kind(last) == api.NodeFall
}

// isLeft tells whether a Break leaves a statement.
func (g page) isLeft(n int) bool {
	label := g.labelOf(n)
	inner := n // where the statements within it that a bare Break leaves are at their end
search:
	for k := n + 1; k < g.behind(n); k++ {
		switch g.kind(k) {
		case api.NodeFuncLit:
			k = g.behind(k) - 1
			continue search
		case api.NodeFor, api.NodeRange, api.NodeSwitch, api.NodeMatch:
			inner = max(inner, g.behind(k))
		case api.NodeBreak:
			name := g.kids(k)[0]
			if g.kind(name) == api.NodeNone && k >= inner || label >= 0 && g.kind(name) == api.NodeName && g.bound(name) == label {
				return true
			}
		}
	}
	return false
}

// labelOf is the declaration of the label whose statement a node is; -1: none. A Label stands two nodes ahead of its statement: its Name is between.
func (g page) labelOf(n int) int {
	if g.kind(n-2) != api.NodeLabel {
		return -1
	}
	return g.made(n - 1)
}

// missingReturn is the first } of a function with results, of those in a node, that may end without them; -1: there is none.
func (g page) missingReturn(node int) int {
	first := -1
	for n := node; n < g.behind(node); n++ {
		if !g.isFunc(n) {
			continue
		}
		kids := g.kids(n)
		sig, block := kids[len(kids)-2], kids[len(kids)-1]
		if results := g.kids(sig)[1]; g.node(results).Size == 1 || g.ends(block) {
			continue
		}
		if at := g.node(block).End - 1; first < 0 || at < first {
			first = at
		}
	}
	return first
}
