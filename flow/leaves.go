package flow

import (
	"slices"

	"moniker/api"
)

func (g page) isLeaving(n int) bool {
	return g.kind(n) == api.NodeBreak || g.kind(n) == api.NodeContinue
}

// mayBeLeft tells whether a Break or Continue may leave, or go on with, a statement of that kind.
func (g page) mayBeLeft(leaving int, kind api.NodeKind) bool {
	switch kind {
	case api.NodeFor, api.NodeRange:
		return true
	case api.NodeSwitch, api.NodeMatch:
		return g.kind(leaving) == api.NodeBreak
	}
	return false
}

// leaves is the statement that a Break or Continue with these nodes around it leaves; -1: none.
func (g page) leaves(n int, around []int) int {
	name := g.kids(n)[0]
	isBare := g.kind(name) == api.NodeNone
search:
	for _, a := range slices.Backward(around) {
		switch {
		case g.isFunc(a):
			break search
		case isBare && g.mayBeLeft(n, g.kind(a)):
			return a
		case isBare || g.kind(a) != api.NodeLabel:
			continue search
		}
		kids := g.kids(a)
		if label := g.made(kids[0]); label < 0 || label != g.bound(name) {
			continue search
		}
		if g.mayBeLeft(n, g.kind(kids[1])) {
			return kids[1]
		}
		break search
	}
	return -1
}

// lostLeaving is the token at which the first Break or Continue in a function is told that leaves nothing; -1: there is none.
func (g page) lostLeaving(node int) int {
	var around []int
	for n := node; n < g.behind(node); n++ {
		for len(around) > 0 && g.behind(around[len(around)-1]) <= n {
			around = around[:len(around)-1]
		}
		if g.isLeaving(n) && g.leaves(n, around) < 0 {
			return g.node(n).End - 1 // its name, or its word
		}
		around = append(around, n)
	}
	return -1
}
