package format

import (
	"moniker/api"
	"moniker/tree"
)

// settleLines finds the items, the frames around them, and how deep their pieces stand.
func (s *sheet) settleLines() {
	s.item(0, 0, 0) // the package clause begins the File, and no other item is around what it is of
	s.settleFrames()
	s.settleNotes()
}

// item settles what stands in a node that has a line of its own.
func (s *sheet) item(n, depth, notes int) {
	node := s.tree.Nodes[n]
	for i := node.First; i < node.End; i++ {
		s.spots[i].depth, s.spots[i].notes = depth+1, depth+1
	}
	s.within(n, depth)
	begin := &s.spots[node.First]
	begin.first, begin.depth, begin.notes = true, depth, notes
}

// within looks for items in a node that itself stands in one of that depth.
func (s *sheet) within(n, depth int) {
	for i, k := range tree.Kids(s.tree, n) {
		switch kind := s.tree.Nodes[k].Kind; {
		case !s.isItem(n, kind):
			s.within(k, depth)
		case s.tree.Nodes[n].Kind != api.NodeList:
			s.item(k, depth+1, depth+1)
		case i > 0 && isClause(kind):
			s.item(k, depth, depth+1) // the comments ahead of it go with the clause ahead of them
		default:
			s.item(k, depth, depth)
		}
	}
}

// isItem tells whether a kid of that kind has a line of its own.
func (s *sheet) isItem(n int, kid api.NodeKind) bool {
	switch node := s.tree.Nodes[n]; node.Kind {
	case api.NodeBlock, api.NodeStruct, api.NodeInterface:
		return true
	case api.NodeImport, api.NodeConst, api.NodeVar, api.NodeTypes:
		return s.spots[node.End-1].owner == n // a ) , and not the end of an only kid
	case api.NodeList:
		switch kid {
		case api.NodeImport, api.NodeConst, api.NodeVar, api.NodeTypes, api.NodeFunc:
			return true
		}
		return isClause(kid)
	}
	return false
}

func isClause(k api.NodeKind) bool { return k == api.NodeCase || k == api.NodeDefault }

// settleFrames finds the marks around items; the closing one ends its node.
func (s *sheet) settleFrames() {
	for i, p := range s.pieces {
		node := s.owner(i)
		if !opensFrame(node.Kind, p.Kind) {
			continue
		}
		end := &s.spots[node.End-1]
		s.spots[i].opens, end.shuts = true, true
		end.depth--
		if s.hasNoClause(s.spots[i].owner) {
			end.notes--
		}
	}
}

// opensFrame tells whether an own token of a node is the first mark of a frame.
func opensFrame(node api.NodeKind, mark api.Kind) bool {
	switch node {
	case api.NodeStruct, api.NodeInterface, api.NodeBlock, api.NodeSwitch, api.NodeMatch:
		return mark == api.TokBegin
	case api.NodeImport, api.NodeConst, api.NodeVar, api.NodeTypes:
		return mark == api.TokOpen
	}
	return false
}

// hasNoClause tells whether a node is a Switch or Match without clauses.
func (s *sheet) hasNoClause(n int) bool {
	if kind := s.tree.Nodes[n].Kind; kind != api.NodeSwitch && kind != api.NodeMatch {
		return false
	}
	kids := tree.Kids(s.tree, n)
	return s.tree.Nodes[kids[len(kids)-1]].Size == 1
}

// settleNotes gives comments the depth of what they stand ahead of; at the source's end that is a File's.
func (s *sheet) settleNotes() {
	depth := 0
	for i := len(s.spots) - 1; i >= 0; i-- {
		switch {
		case s.isNote(i):
			s.spots[i].depth = depth
		case s.spots[i].kept:
			depth = s.spots[i].notes
		}
	}
}
