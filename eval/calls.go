package eval

import (
	"slices"

	"moniker/api"
)

// routine is a Func or FuncLit. What it does is made when it is called first, so that what is never called costs nothing.
type routine struct {
	*coder
	node   int
	params []int // the arguments' cells, the receiver's first; noSlot: it has no name
	do     stmt
}

// prepare makes what the routine does.
func (t *routine) prepare() {
	kids := t.kids(t.node)
	sig, block := t.kids(kids[len(kids)-2]), kids[len(kids)-1]
	if t.kind(kids[0]) == api.NodeRecv {
		t.params = append(t.params, t.slotOf(t.kids(kids[0])[0]))
	}
	for _, param := range t.kids(sig[0]) {
		for _, n := range t.kids(t.kids(param)[0]) {
			t.params = append(t.params, t.slotOf(n))
		}
	}
	for _, n := range t.kids(sig[1]) {
		t.results = append(t.results, t.written(n))
	}
	t.do = t.block(block)
}

// call does the routine; around are the cells of variables that it has from where it stands.
func (t *routine) call(r *runner, around []*cell, args []value) []value {
	if t.do == nil {
		t.prepare()
	}
	f := &frame{runner: r, cells: make([]*cell, len(t.slots))}
	copy(f.cells, around)
	for i, slot := range t.params {
		f.define(slot, args[i])
	}
	t.do(f)
	return f.results
}

// function is the routine as a value.
func (t *routine) function(around []*cell) function {
	return func(r *runner, at api.Place, args []value) []value {
		return r.enter(at, t, around, args)
	}
}

// funcLit is a FuncLit: it holds the cells of those variables around it that it names.
func (c *coder) funcLit(n int) expr {
	t := &routine{coder: newCoder(c.page), node: n}
	var slots []int
	for _, d := range c.variablesIn(n) {
		slots = append(slots, c.slot(d))
		t.slot(d)
	}
	return func(f *frame) value {
		around := make([]*cell, len(slots))
		for i, slot := range slots {
			around[i] = f.cells[slot]
		}
		return t.function(around)
	}
}

// variablesIn are the variables of functions around a FuncLit that it names, or FuncLits in it do.
func (c *coder) variablesIn(n int) []int {
	lit := c.tree.Nodes[n]
	var out []int
	for k := n; k < n+lit.Size; k++ {
		if c.kind(k) != api.NodeName {
			continue
		}
		d := c.bound(k)
		if d < 0 || c.decls[d].Kind != api.DeclVar {
			continue
		}
		made := c.decls[d].At.Token
		if _, isGlobal := c.numbers[d]; !isGlobal && (made < lit.First || made >= lit.End) {
			out = append(out, d)
		}
	}
	slices.Sort(out)
	return slices.Compact(out)
}

// call is a Call that has taken one.
func (c *coder) call(n int) exprs {
	kids := c.kids(n)
	args := c.kids(kids[1])
	if to := c.written(kids[0]); to != nil {
		x := c.into(args[0], to)
		return func(f *frame) []value { return []value{x(f)} }
	}
	if native := c.native(n, kids[0], args); native != nil {
		return native
	}
	of := c.typeOf(kids[0])
	x, values, at := c.expr(kids[0]), c.values(args, c.kindsOf(of.parts)), c.at(n)
	return func(f *frame) []value {
		called, _ := x(f).(function)
		list := values(f)
		if called == nil {
			fail(api.EndNil, at)
		}
		return called(f.runner, at, list)
	}
}
