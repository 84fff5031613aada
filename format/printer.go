package format

import (
	"strings"

	"moniker/api"
	"moniker/lexer"
)

// lines writes lines, and keeps where in them the pieces of a source stand.
type lines struct {
	out    strings.Builder
	places []place
}

// place is where a piece stands: its bytes in the source, and where they begin in the lines.
type place struct{ from, to, at int }

// end is where a piece ends in the lines.
func (p place) end() int { return p.at + p.to - p.from }

func (w *lines) put(s string) { w.out.WriteString(s) }

// piece writes what begins at that byte of the source.
func (w *lines) piece(from int, s string) {
	w.places = append(w.places, place{from, from + len(s), w.out.Len()})
	w.put(s)
}

// line ends a line, leaves so many empty, and begins one.
func (w *lines) line(empty, tabs int) {
	w.put("\n" + strings.Repeat("\n", empty) + strings.Repeat("\t", tabs))
}

// joining says what stands between two pieces of one line.
type joining func(a, b int) string

const (
	nothing = ""
	blank   = " "
)

// printer lays a sheet out.
type printer struct {
	lines
	*sheet
	joinings map[api.Kind]joining // by the kind of the second piece; without one the first piece alone says it
}

func newPrinter(s *sheet) *printer {
	s.settleLines()
	p := &printer{sheet: s}
	closely := func(a, b int) string { return nothing }
	p.joinings = map[api.Kind]joining{
		api.TokNote:    func(a, b int) string { return blank },
		api.TokOpen:    p.closelyIf(p.opensCall),
		api.TokOpenAt:  p.closelyIf(p.opensIndex),
		api.TokBegin:   p.closelyIf(p.opensClosely),
		api.TokClose:   closely,
		api.TokCloseAt: closely,
		api.TokEnd:     closely, // where it begins no line, its { has nothing in it or is a Composite's
		api.TokComma:   closely,
		api.TokSemi:    closely,
		api.TokColon:   closely,
		api.TokDot:     closely,
		api.TokDots:    closely,
		api.TokInc:     closely,
		api.TokDec:     closely,
	}
	return p
}

// print is the whole layout.
func (p *printer) print() string {
	last := -1
	for i, s := range p.spots {
		switch {
		case s.kept:
			if last >= 0 {
				p.between(last, i)
			}
			p.piece(p.pieces[i].From, p.spelling(i))
			last = i
		case p.inHeader(i):
			p.put(";") // an auto: with no line feed behind it there would be none
			last = i
		}
	}
	p.line(0, 0)
	return p.out.String()
}

func (p *printer) between(a, b int) {
	feeds := p.feeds(a, b)
	if !p.breaks(a, b, feeds) {
		p.put(p.join(a, b))
		return
	}
	empty := 0
	if feeds > 1 && !p.spots[a].opens && !p.spots[b].shuts {
		empty = 1
	}
	p.line(empty, p.spots[b].depth)
}

// breaks tells whether a line ends between two pieces, between which so many line feeds stood.
func (p *printer) breaks(a, b, feeds int) bool {
	if p.isNote(b) && feeds > 0 || p.isLineNote(a) || p.spots[b].first {
		return true
	}
	return p.spots[b].shuts && !p.spots[a].opens
}

func (p *printer) join(a, b int) string {
	if p.isNote(a) {
		return blank
	}
	if says := p.joinings[p.pieces[b].Kind]; says != nil {
		return says(a, b)
	}
	return p.behind(a, b)
}

// closelyIf joins closely what is so; the rest as the first piece says.
func (p *printer) closelyIf(so func(b int) bool) joining {
	return func(a, b int) string {
		if so(b) {
			return nothing
		}
		return p.behind(a, b)
	}
}

func (p *printer) opensCall(b int) bool {
	switch node := p.owner(b); node.Kind {
	case api.NodeCall:
		return true
	case api.NodeSig, api.NodeShape:
		return node.First == b // not the ( of the results
	}
	return false
}

func (p *printer) opensIndex(b int) bool {
	switch p.owner(b).Kind {
	case api.NodeIndex, api.NodeSlice, api.NodeMapOf:
		return true
	}
	return false
}

func (p *printer) opensClosely(b int) bool {
	switch p.owner(b).Kind {
	case api.NodeComposite:
		return true
	case api.NodeStruct, api.NodeInterface:
		return p.spots[p.nextKept(b)].shuts
	}
	return false
}

// behind is what stands behind the first of two pieces, if the second one does not say it.
func (p *printer) behind(a, b int) string {
	if p.holds(a, b) {
		return nothing
	}
	return blank
}

// holds tells whether the first of two pieces asks that the second one stands right behind it.
func (p *printer) holds(a, b int) bool {
	owner := p.owner(a).Kind
	switch p.pieces[a].Kind {
	case api.TokOpen, api.TokOpenAt, api.TokDot:
		return true
	case api.TokBegin:
		return owner == api.NodeComposite
	case api.TokColon:
		return owner == api.NodeSlice
	case api.TokCloseAt:
		return owner == api.NodeSliceOf || owner == api.NodeMapOf
	}
	return (owner == api.NodeSign || owner == api.NodeStar) && !p.melt(a, b)
}

// melt tells whether a mark would be cut as a longer one, if another stood right behind it.
func (p *printer) melt(a, b int) bool {
	mark := lexer.Spell(p.pieces[a].Kind)
	cut, _ := lexer.Scan(mark + lexer.Spell(p.pieces[b].Kind))
	return len(cut) > 0 && cut[0].To > len(mark)
}
