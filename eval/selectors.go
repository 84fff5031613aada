package eval

import (
	"slices"

	"moniker/api"
)

// selector is a Select that has taken one.
func (c *coder) selector(n int) expr {
	kids := c.kids(n)
	switch {
	case c.isImport(kids[0]):
		return c.thing(n, c.bound(kids[1]))
	case c.written(kids[0]) != nil:
		return c.methodExpression(n)
	case c.isField(kids[1]):
		find := c.field(n, true)
		return func(f *frame) value { return find(f).read() }
	}
	return c.methodValue(n)
}

// isField tells whether the Name of a Select that is not qualified is bound to a field.
func (c *coder) isField(name int) bool {
	switch c.decls[c.member(name)].Kind {
	case api.DeclField, api.DeclEmbed:
		return true
	}
	return false
}

// member is the declaration that the Name of such a Select, or a key, is bound to; of an interface type's methods the first.
func (c *coder) member(name int) int { return c.checks.Members(c.at(name))[0] }

// way are the numbers of the embedded fields by which such a Select goes.
func (c *coder) way(name int) []int { return c.fieldNumbers(c.checks.Way(c.at(name))) }

func (p *program) fieldNumbers(decls []int) []int {
	var out []int
	for _, d := range decls {
		out = append(out, p.fieldNumber(d))
	}
	return out
}

// base is x of a Select: a cell in which a struct lies, or a pointer to one, or whatever has the method.
func (c *coder) base(n int, isRead bool) finder {
	if c.typeOf(n).form != api.NodeStar && c.isPlace(n) {
		return c.cell(n, isRead)
	}
	x := c.expr(n)
	return func(f *frame) *cell { return &cell{held: x(f)} }
}

// field finds the field's cell that a Select is.
func (c *coder) field(n int, isRead bool) finder {
	kids := c.kids(n)
	base, at := c.base(kids[0], isRead), c.at(n)
	path := append(c.way(kids[1]), c.fieldNumber(c.member(kids[1])))
	return func(f *frame) *cell {
		x := base(f)
		for _, number := range path {
			x = x.member(number, isRead, at)
		}
		return x
	}
}

// method is a method as it is found in a type.
type method struct {
	name   string
	does   *routine // nil: it is one of an interface type, and the value that lies there tells which it is
	isStar bool     // its receiver is a *
	way    []int    // the numbers of the embedded fields that lead to it
}

// asked is a method's name that is looked up in a type.
type asked struct {
	id   int
	name string
}

// methodOf is the method of a declaration, to which embedded fields lead.
func (p *program) methodOf(decl int, way []int) method {
	m := method{name: p.decls[decl].Name, does: p.routines[decl], way: p.fieldNumbers(way)}
	if t := m.does; t != nil {
		recv := t.kids(t.kids(t.node)[0])
		m.isStar = t.kind(recv[1]) == api.NodeStar
	}
	return m
}

// methodIn is the method of a name in the method set of a type.
func (p *program) methodIn(of *kind, name string) method {
	q := asked{of.id, name}
	if of.form == api.NodeStar {
		q.id = of.parts[0]
	}
	m, ok := p.methods[q]
	if !ok {
		decl, way, _ := p.table.Look(q.id, name)
		m = p.methodOf(decl, way)
		p.methods[q] = m
	}
	return m
}

// methodValue is a Select of a method: its receiver is made here and now.
func (c *coder) methodValue(n int) expr {
	kids := c.kids(n)
	m := c.methodOf(c.member(kids[1]), c.checks.Way(c.at(kids[1])))
	base, at := c.base(kids[0], !m.isStar), c.at(n)
	return func(f *frame) value { return f.bind(base(f), m, at) }
}

// methodExpression is a Select of a type's method: the receiver is made of the first argument of each call.
func (c *coder) methodExpression(n int) expr {
	kids := c.kids(n)
	m := c.methodOf(c.member(kids[1]), c.checks.Way(c.at(kids[1])))
	call := func(r *runner, at api.Place, args []value) []value {
		return r.bind(&cell{held: args[0]}, m, at)(r, at, args[1:])
	}
	return func(*frame) value { return function(call) }
}

// bind is a method with its receiver, which is found from a cell.
func (r *runner) bind(x *cell, m method, at api.Place) function {
	var t trail
	for {
		for _, number := range m.way {
			x = x.member(number, !m.isStar, at)
		}
		if m.does != nil {
			break
		}
		v, _ := x.read().(face)
		if v.isNil() {
			fail(api.EndNil, at)
		}
		if p, ok := v.held.(pointer); ok && t.comesRound(p.to) {
			fail(api.EndDeep, at) // interface values that embed one another would be gone through for ever
		}
		x, m = &cell{held: v.held}, r.methodIn(v.of, m.name)
	}
	receiver := x.receiver(m.isStar, at)
	return func(r *runner, at api.Place, args []value) []value {
		return r.enter(at, m.does, nil, slices.Concat([]value{receiver}, args))
	}
}

// receiver is what a method gets of what lies in a cell.
func (c *cell) receiver(isStar bool, at api.Place) value {
	if !isStar {
		return c.pointed(at).read()
	}
	if p, ok := c.held.(pointer); ok {
		return p
	}
	return pointer{c}
}

// trail tells whether a way from cell to cell comes round to where it was. It remembers one cell of the way, and then another, whenever it has gone as far again: so in the end one that it comes to again.
type trail struct {
	mark        *cell
	steps, most int
}

func (t *trail) comesRound(to *cell) bool {
	if to != nil && to == t.mark {
		return true
	}
	if t.steps++; t.steps > t.most {
		t.mark, t.steps, t.most = to, 0, 2*t.most+1
	}
	return false
}
