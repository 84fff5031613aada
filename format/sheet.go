package format

import (
	"strings"

	"moniker/api"
	"moniker/parser"
	"moniker/tree"
)

// sheet is a source with what its tree says of its pieces.
type sheet struct {
	text   string
	pieces []api.Token
	tree   api.Tree
	spots  []spot // one a piece
}

// spot is what the tree says of a piece.
type spot struct {
	owner int  // of a token: the node whose own it is
	kept  bool // in every layout
	first bool // of an item
	opens bool // a frame
	shuts bool // a frame
	depth int  // its own, where it begins a line
	notes int  // that of comments on lines of their own ahead of it
}

func read(text string) (*sheet, api.Fault) {
	pieces, t, fault := parser.File(text)
	if fault != (api.Fault{}) {
		return nil, fault
	}
	s := &sheet{text: text, pieces: pieces, tree: t, spots: make([]spot, len(pieces))}
	s.settleOwners()
	s.settleKept()
	return s, api.Fault{}
}

func (s *sheet) settleOwners() {
	for n := range tree.Walk(s.tree, 0, nil) {
		for _, i := range tree.Own(s.pieces, s.tree, n) {
			s.spots[i].owner = n
		}
	}
}

func (s *sheet) settleKept() {
	for i, p := range s.pieces {
		switch p.Kind {
		case api.TokBlanks, api.TokAuto:
		case api.TokSemi:
			s.spots[i].kept = s.inHeader(i)
		default:
			s.spots[i].kept = true
		}
	}
	for _, node := range s.tree.Nodes {
		if node.Kind == api.NodeEmpty && s.pieces[node.First].Kind == api.TokSemi {
			s.spots[node.First].kept = true
		}
	}
}

// owner is the node whose own token a piece is.
func (s *sheet) owner(i int) api.Node { return s.tree.Nodes[s.spots[i].owner] }

// inHeader tells whether a semicolon stands in a statement's header.
func (s *sheet) inHeader(i int) bool {
	switch s.owner(i).Kind {
	case api.NodeIf, api.NodeSwitch, api.NodeMatch, api.NodeFor:
		return isSemicolon(s.pieces[i].Kind)
	}
	return false
}

func isToken(k api.Kind) bool { return k != api.TokBlanks && k != api.TokNote }

func isSemicolon(k api.Kind) bool { return k == api.TokSemi || k == api.TokAuto }

// spelling is a kept piece as it is written in every layout.
func (s *sheet) spelling(i int) string {
	p := s.pieces[i]
	w := s.text[p.From:p.To]
	if s.isLineNote(i) {
		return strings.TrimRight(w, " \t\r")
	}
	return w
}

func (s *sheet) isNote(i int) bool { return s.pieces[i].Kind == api.TokNote }

// isLineNote tells whether a piece is a comment up to the end of its line.
func (s *sheet) isLineNote(i int) bool {
	return s.isNote(i) && strings.HasPrefix(s.text[s.pieces[i].From:], "//")
}

// feeds are the line feeds in the blanks between two pieces.
func (s *sheet) feeds(a, b int) int {
	n := 0
	for _, p := range s.pieces[a+1 : b] {
		if p.Kind == api.TokBlanks {
			n += strings.Count(s.text[p.From:p.To], "\n")
		}
	}
	return n
}

// nextKept is the next piece behind one that is kept too.
func (s *sheet) nextKept(i int) int {
	i++
	for !s.spots[i].kept {
		i++
	}
	return i
}
