package eval

import (
	"moniker/api"
	"moniker/scope"
)

// expr is an expression with one value, exprs one with any number of them, or several expressions.
type (
	expr  func(f *frame) value
	exprs func(f *frame) []value
)

// coder makes functions of the nodes of a Func or FuncLit, or of a package variable's expression.
type coder struct {
	page
	slots   map[int]int // by the declaration of a variable: its cell's number in a frame
	results []*kind
}

func newCoder(g page) *coder { return &coder{page: g, slots: map[int]int{}} }

// slot is the number of a variable's cell.
func (c *coder) slot(decl int) int {
	n, ok := c.slots[decl]
	if !ok {
		n = len(c.slots)
		c.slots[decl] = n
	}
	return n
}

// slotOf is the number of the cell of the variable that a Name makes; noSlot: it makes none.
func (c *coder) slotOf(n int) int {
	if c.kind(n) != api.NodeName {
		return noSlot
	}
	if d := c.makes(n); d >= 0 {
		return c.slot(d)
	}
	return noSlot
}

const noSlot = -1

// define gives a variable a new cell.
func (f *frame) define(slot int, v value) {
	if slot != noSlot {
		f.cells[slot] = &cell{held: v}
	}
}

// kindsAt are the types of expressions, or of what Names declare; nil of blank ones.
func (c *coder) kindsAt(nodes []int) []*kind {
	var out []*kind
	for _, n := range nodes {
		out = append(out, c.typeOf(n))
	}
	return out
}

// expr is an expression that takes one as it begins.
func (c *coder) expr(n int) expr {
	do, at := c.rule(n), c.at(n)
	return func(f *frame) value {
		f.take(at)
		return do(f)
	}
}

// into is an expression whose value is put into a type; nil: into none.
func (c *coder) into(n int, to *kind) expr {
	x, from := c.expr(n), c.typeOf(n)
	if to == nil || !to.isFace() || from.isFace() {
		return x
	}
	return func(f *frame) value { return face{from, x(f)} }
}

// values are those of expressions, put into types: of as many, or of one that has several.
func (c *coder) values(nodes []int, to []*kind) exprs {
	if len(nodes) != len(to) {
		return c.spread(nodes[0], to)
	}
	var list []expr
	for i, n := range nodes {
		list = append(list, c.into(n, to[i]))
	}
	return func(f *frame) []value {
		out := make([]value, len(list))
		for i, x := range list {
			out[i] = x(f)
		}
		return out
	}
}

// spread are the values of a Call, or the value of an Index or Assert and whether it was there.
func (c *coder) spread(n int, to []*kind) exprs {
	from := c.kindsOf(c.checks.Types(c.file, n))
	var all exprs
	switch c.kind(n) {
	case api.NodeIndex:
		all, from = c.indexFound(n), append(from, c.typed(boolType))
	case api.NodeAssert:
		all, from = c.assertFound(n), append(from, c.typed(boolType))
	default:
		all = c.call(n)
	}
	at := c.at(n)
	return func(f *frame) []value {
		f.take(at)
		var out []value
		for i, v := range all(f) {
			out = append(out, put(v, from[i], to[i]))
		}
		return out
	}
}

// rule is what an expression does when it has taken one.
func (c *coder) rule(n int) expr {
	if val, ok := c.checks.Const(c.file, n); ok {
		v := valueOf(val)
		return func(*frame) value { return v }
	}
	kids := c.kids(n)
	switch c.kind(n) {
	case api.NodeName:
		return c.thing(n, c.bound(n))
	case api.NodeParen:
		return c.expr(kids[0])
	case api.NodeBinary:
		return c.binary(n)
	case api.NodeSign:
		return c.sign(n)
	case api.NodeStar:
		return c.star(n)
	case api.NodeSelect:
		return c.selector(n)
	case api.NodeIndex:
		return c.index(n)
	case api.NodeSlice:
		return c.slice(n)
	case api.NodeAssert:
		return c.assert(n)
	case api.NodeFuncLit:
		return c.funcLit(n)
	case api.NodeComposite:
		return c.composite(n)
	}
	all := c.call(n)
	return func(f *frame) value { return all(f)[0] }
}

// thing is what a Name, or a qualified Select, is that is bound to a declaration.
func (c *coder) thing(n, decl int) expr {
	if decl == scope.Universe("nil") {
		zero := c.typeOf(n).zero
		return func(*frame) value { return zero }
	}
	if t, ok := c.routines[decl]; ok {
		v := t.function(nil)
		return func(*frame) value { return v }
	}
	find := c.variable(decl)
	return func(f *frame) value { return find(f).read() }
}

// variable finds the cell of a variable.
func (c *coder) variable(decl int) func(f *frame) *cell {
	if number, ok := c.numbers[decl]; ok {
		return func(f *frame) *cell { return f.globals[number] }
	}
	slot := c.slot(decl)
	return func(f *frame) *cell { return f.cells[slot] }
}
