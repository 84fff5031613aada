package eval

import (
	"moniker/api"
)

// finder finds the cell of a node that is evaluated as a place.
type finder func(f *frame) *cell

// place is a left one: a node that is evaluated as a place, and takes one as it begins; a blank name takes none.
func (c *coder) place(n int) func(f *frame) place {
	if c.isBlank(n) {
		return func(*frame) place { return nowhere{} }
	}
	find, at := c.found(n), c.at(n)
	return func(f *frame) place {
		f.take(at)
		return find(f)
	}
}

// found is a left one that has taken one.
func (c *coder) found(n int) func(f *frame) place {
	switch c.kind(n) {
	case api.NodeParen:
		return c.place(c.kids(n)[0])
	case api.NodeIndex:
		if c.typeOf(c.kids(n)[0]).form == api.NodeMapOf {
			find := c.entry(n)
			return func(f *frame) place { return find(f) }
		}
		find := c.element(n)
		return func(f *frame) place { return find(f) }
	}
	find := c.findCell(n, false)
	return func(f *frame) place { return find(f) }
}

// cell is a node that is evaluated as a place which is a cell, and takes one as it begins. If the cell is only to be read from, another one that holds the same may stand for it: so nothing becomes a cell of its own by being looked at.
func (c *coder) cell(n int, isRead bool) finder {
	find, at := c.findCell(n, isRead), c.at(n)
	return func(f *frame) *cell {
		f.take(at)
		return find(f)
	}
}

// findCell is such a node that has taken one.
func (c *coder) findCell(n int, isRead bool) finder {
	kids := c.kids(n)
	switch c.kind(n) {
	case api.NodeParen:
		return c.cell(kids[0], isRead)
	case api.NodeStar:
		return c.pointed(n)
	case api.NodeIndex:
		find := c.element(n)
		if isRead {
			return func(f *frame) *cell { return find(f).look() }
		}
		return func(f *frame) *cell { return find(f).open() }
	case api.NodeSelect:
		if !c.isImport(kids[0]) {
			return c.field(n, isRead)
		}
		return c.variable(c.bound(kids[1]))
	}
	return c.variable(c.bound(n))
}

// isPlace tells whether an expression is a place that is a cell.
func (c *coder) isPlace(n int) bool {
	kids := c.kids(n)
	switch c.kind(n) {
	case api.NodeName:
		return c.isVariable(n)
	case api.NodeParen:
		return c.isPlace(kids[0])
	case api.NodeStar:
		return true
	case api.NodeIndex:
		return c.typeOf(kids[0]).form == api.NodeSliceOf
	case api.NodeSelect:
		if c.isImport(kids[0]) {
			return c.isVariable(kids[1])
		}
		return c.isField(kids[1]) && (c.typeOf(kids[0]).form == api.NodeStar || c.isPlace(kids[0]))
	}
	return false
}

func (c *coder) isVariable(name int) bool { return c.decls[c.bound(name)].Kind == api.DeclVar }

func (c *coder) isImport(n int) bool {
	return c.kind(n) == api.NodeName && c.decls[c.bound(n)].Kind == api.DeclImport
}

// pointed finds what a Star's kid points to.
func (c *coder) pointed(n int) finder {
	x, at := c.expr(c.kids(n)[0]), c.at(n)
	return func(f *frame) *cell {
		p, _ := x(f).(pointer)
		return p.cell(at)
	}
}

// element finds the element of a slice that an Index is.
func (c *coder) element(n int) func(f *frame) element {
	kids := c.kids(n)
	x, i, at := c.expr(kids[0]), c.expr(kids[1]), c.at(n)
	return func(f *frame) element {
		s, _ := x(f).(slice)
		number, _ := i(f).(number)
		return s.at(number, at)
	}
}

// entry finds the element of a map that an Index is.
func (c *coder) entry(n int) func(f *frame) entry {
	kids := c.kids(n)
	x, key, of, at := c.expr(kids[0]), c.expr(kids[1]), c.typeOf(n), c.at(n)
	return func(f *frame) entry {
		m, _ := x(f).(mapping)
		return entry{m.in, plain(key(f)), of, at}
	}
}
