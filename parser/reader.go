package parser

import "moniker/api"

// stuck is what a reader gives up with, from however deep: the number of the piece that cannot go on.
type stuck struct{ at int }

// part is a node while its tree grows: another may still be put around it, so it has no place in a list yet.
type part struct {
	kind       api.NodeKind
	first, end int
	kids       []*part
}

// reader goes through the tokens of a list of pieces.
type reader struct {
	kinds  []api.Kind
	places []int // the tokens' numbers among the pieces; behind them the number of pieces
	next   int
	bare   bool // in a header outside of all brackets: there a { behind a type's name is the Block's
	guard  int  // the token at which a Primary may begin that is a Guard's; -1: none
}

func newReader(l []api.Token) *reader {
	r := &reader{guard: -1}
	for i, t := range l {
		if t.Kind != api.TokBlanks && t.Kind != api.TokNote {
			r.kinds = append(r.kinds, t.Kind)
			r.places = append(r.places, i)
		}
	}
	r.places = append(r.places, len(l))
	return r
}

// peek is the kind of a token ahead; behind the last one KindCount, which goes on nothing.
func (r *reader) peek(ahead int) api.Kind {
	if r.next+ahead < len(r.kinds) {
		return r.kinds[r.next+ahead]
	}
	return api.KindCount
}

func (r *reader) kind() api.Kind { return r.peek(0) }

func (r *reader) place() int { return r.places[r.next] }

func (r *reader) fail() *part { panic(stuck{r.place()}) }

// take goes past a token and tells its place.
func (r *reader) take() int {
	at := r.place()
	r.next++
	return at
}

func (r *reader) expect(k api.Kind) int {
	if r.kind() != k {
		r.fail()
	}
	return r.take()
}

func (r *reader) atSemicolon() bool {
	return r.kind() == api.TokSemi || r.kind() == api.TokAuto
}

func (r *reader) semicolon() {
	if !r.atSemicolon() {
		r.fail()
	}
	r.take()
}

// behind is the place behind the token that was taken last.
func (r *reader) behind() int { return r.places[r.next-1] + 1 }

// node is a node from first up to behind the token that was taken last.
func (r *reader) node(kind api.NodeKind, first int, kids ...*part) *part {
	return &part{kind, first, r.behind(), kids}
}

// empty is a node without a token.
func (r *reader) empty(kind api.NodeKind) *part {
	return &part{kind: kind, first: r.place(), end: r.place()}
}

func (r *reader) none() *part { return r.empty(api.NodeNone) }

// leaf is a node of the next token alone.
func (r *reader) leaf(kind api.NodeKind) *part { return r.node(kind, r.take()) }

func (r *reader) name() *part { return r.node(api.NodeName, r.expect(api.TokName)) }

// list reads one or more with commas between.
func (r *reader) list(one func() *part) *part {
	kids := []*part{one()}
	for r.kind() == api.TokComma {
		r.take()
		kids = append(kids, one())
	}
	return r.node(api.NodeList, kids[0].first, kids...)
}

// listTo reads one or more ahead of a closing bracket; a comma right ahead of that is left, as it is not the list's.
func (r *reader) listTo(end api.Kind, one func() *part) *part {
	kids := []*part{one()}
	for r.kind() == api.TokComma && r.peek(1) != end {
		r.take()
		kids = append(kids, one())
	}
	return r.node(api.NodeList, kids[0].first, kids...)
}

// anyTo is as listTo, or an empty list.
func (r *reader) anyTo(end api.Kind, one func() *part) *part {
	if r.kind() == end {
		return r.empty(api.NodeList)
	}
	return r.listTo(end, one)
}

// comma goes past a comma that may stand ahead of a closing bracket.
func (r *reader) comma() {
	if r.kind() == api.TokComma {
		r.take()
	}
}

// rows reads what has a ; behind each, the last one too, as long as there is more.
func (r *reader) rows(more func() bool, one func() *part) *part {
	out := r.empty(api.NodeList)
	for more() {
		out.kids = append(out.kids, one())
		r.semicolon()
		out.end = r.behind()
	}
	return out
}

// members reads what stands up to a closing bracket, ahead of which alone a ; may be left out.
func (r *reader) members(end api.Kind, one func() *part) []*part {
	var kids []*part
	for r.kind() != end {
		kids = append(kids, one())
		if r.kind() != end {
			r.semicolon()
		}
	}
	r.take()
	return kids
}

// inside reads what stands in brackets or in a function's Block: it is not bare in a header.
func (r *reader) inside(read func() *part) *part {
	was := r.bare
	r.bare = false
	p := read()
	r.bare = was
	return p
}

// layout puts the nodes of a tree into one list, each ahead of its kids.
type layout struct {
	nodes []api.Node
	deep  int // the First of the first node that lies too deep; -1: none
}

func (y *layout) put(p *part, around int) {
	if around >= api.MaxDepth && y.deep < 0 {
		y.deep = p.first
	}
	at := len(y.nodes)
	y.nodes = append(y.nodes, api.Node{Kind: p.kind, First: p.first, End: p.end})
	for _, kid := range p.kids {
		y.put(kid, around+1)
	}
	y.nodes[at].Size = len(y.nodes) - at
}
