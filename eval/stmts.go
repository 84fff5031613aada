package eval

import (
	"moniker/api"
	"moniker/flow"
)

// stmt is a statement.
type stmt func(f *frame) leaving

// leaving is how a statement is left: its zero value by going on behind it.
type leaving struct {
	how exit
	to  int // the node of the statement that a Break leaves, or a Continue goes on with
}

type exit uint8

const (
	goesOn exit = iota
	breaks
	continues
	falls
	returns
)

// stmt is a statement that takes one as it begins; None takes none.
func (c *coder) stmt(n int) stmt {
	do, at := c.action(n), c.at(n)
	if c.kind(n) == api.NodeNone {
		return do
	}
	return func(f *frame) leaving {
		f.take(at)
		return do(f)
	}
}

// action is what a statement does when it has taken one, or where it takes none.
func (c *coder) action(n int) stmt {
	kids := c.kids(n)
	switch c.kind(n) {
	case api.NodeBlock:
		return c.block(n)
	case api.NodeLabel:
		return c.action(kids[1])
	case api.NodeVar:
		return c.variables(kids)
	case api.NodeDefine:
		return c.define(kids)
	case api.NodeAssign:
		return c.assign(n)
	case api.NodeStep:
		return c.step(kids[0])
	case api.NodeDo:
		return c.calling(kids[0])
	case api.NodeReturn:
		return c.answer(c.kids(kids[0]))
	case api.NodeIf:
		return c.decide(kids)
	case api.NodeFor:
		return c.loop(n)
	case api.NodeRange:
		return c.ranging(n)
	case api.NodeSwitch:
		return c.choose(n)
	case api.NodeMatch:
		return c.match(n)
	case api.NodeBreak:
		return c.leave(n, breaks)
	case api.NodeContinue:
		return c.leave(n, continues)
	case api.NodeFall:
		return func(*frame) leaving { return leaving{how: falls} }
	}
	return func(*frame) leaving { return leaving{} }
}

func (c *coder) block(n int) stmt {
	var list []stmt
	for _, k := range c.kids(n) {
		list = append(list, c.stmt(k))
	}
	return func(f *frame) leaving {
		for _, s := range list {
			if l := s(f); l.how != goesOn {
				return l
			}
		}
		return leaving{}
	}
}

// leave is a Break or Continue. What it leaves is asked for when it is first done, as much is looked through for it.
func (c *coder) leave(n int, how exit) stmt {
	l := leaving{how: goesOn}
	return func(*frame) leaving {
		if l.how == goesOn {
			l = leaving{how, flow.Leaves(c.modules, c.scopes, c.file, n)}
		}
		return l
	}
}

// calling is a Call whose results are gone.
func (c *coder) calling(n int) stmt {
	call, at := c.call(n), c.at(n)
	return func(f *frame) leaving {
		f.take(at)
		call(f)
		return leaving{}
	}
}

func (c *coder) answer(list []int) stmt {
	values := c.values(list, c.results)
	return func(f *frame) leaving {
		f.results = values(f)
		return leaving{how: returns}
	}
}

// decide is an If.
func (c *coder) decide(kids []int) stmt {
	read := c.action
	if c.kind(kids[3]) == api.NodeIf {
		read = c.stmt
	}
	first, condition, then, other := c.stmt(kids[0]), c.expr(kids[1]), c.block(kids[2]), read(kids[3])
	return func(f *frame) leaving {
		first(f)
		if condition(f) == truth(true) {
			return then(f)
		}
		return other(f)
	}
}

// variables is a Var in a Block: its specs.
func (c *coder) variables(specs []int) stmt {
	var list []stmt
	for _, spec := range specs {
		kids := c.kids(spec)
		list = append(list, c.spec(c.kids(kids[0]), c.kids(kids[2])))
	}
	return func(f *frame) leaving {
		for _, s := range list {
			s(f)
		}
		return leaving{}
	}
}

// spec is a VarSpec in a Block.
func (c *coder) spec(names, exprs []int) stmt {
	kinds := c.kindsAt(names)
	slots, zeros := make([]int, len(names)), make([]value, len(names))
	for i, n := range names {
		slots[i] = c.slotOf(n)
		if kinds[i] != nil {
			zeros[i] = kinds[i].zero
		}
	}
	values := func(*frame) []value { return zeros }
	if len(exprs) > 0 {
		values = c.values(exprs, kinds)
	}
	return func(f *frame) leaving {
		for i, v := range values(f) {
			f.define(slots[i], v)
		}
		return leaving{}
	}
}

// define is a Define: what is new gets a cell, what is used is assigned to.
func (c *coder) define(kids []int) stmt {
	names := c.kids(kids[0])
	values := c.values(c.kids(kids[1]), c.kindsAt(names))
	var slots []int
	var used []finder
	for _, n := range names {
		var find finder
		if !c.isBlank(n) && c.makes(n) < 0 {
			find = c.variable(c.bound(n))
		}
		slots, used = append(slots, c.slotOf(n)), append(used, find)
	}
	return func(f *frame) leaving {
		for i, v := range values(f) {
			if used[i] != nil {
				used[i](f).assign(v)
				continue
			}
			f.define(slots[i], v)
		}
		return leaving{}
	}
}

// assign is an Assign.
func (c *coder) assign(n int) stmt {
	kids := c.kids(n)
	left, right := c.kids(kids[0]), c.kids(kids[1])
	if op := c.markBehind(kids[0]); op != api.TokIs {
		return c.change(n, left[0], right[0], op-api.TokAddIs+api.TokAdd)
	}
	places, values := c.places(left), c.values(right, c.kindsAt(left))
	return func(f *frame) leaving {
		list := places(f)
		for i, v := range values(f) {
			list[i].assign(v)
		}
		return leaving{}
	}
}

// places are left ones, from the left.
func (c *coder) places(nodes []int) func(f *frame) []place {
	var finders []func(f *frame) place
	for _, n := range nodes {
		finders = append(finders, c.place(n))
	}
	return func(f *frame) []place {
		var out []place
		for _, find := range finders {
			out = append(out, find(f))
		}
		return out
	}
}

// change is an Assign with another operator than =.
func (c *coder) change(n, left, right int, op api.Kind) stmt {
	find, x, at := c.place(left), c.expr(right), c.at(n)
	return func(f *frame) leaving {
		p := find(f)
		v := x(f)
		p.assign(operate(op, p.read(), v, at))
		return leaving{}
	}
}

func (c *coder) step(n int) stmt {
	find, by := c.place(n), number(1)
	if c.markBehind(n) == api.TokDec {
		by = -1
	}
	return func(f *frame) leaving {
		p := find(f)
		v, _ := p.read().(number)
		p.assign(v + by)
		return leaving{}
	}
}
