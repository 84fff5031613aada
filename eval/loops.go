package eval

import (
	"iter"

	"moniker/api"
)

// isLeft tells how a loop goes on behind a round: whether it is left, and how then.
func (l leaving) isLeft(loop int) (leaving, bool) {
	switch l {
	case leaving{}, leaving{continues, loop}:
		return leaving{}, false
	case leaving{breaks, loop}:
		return leaving{}, true
	}
	return l, true
}

// loop is a For.
func (c *coder) loop(n int) stmt {
	kids := c.kids(n)
	first, last, block, at := c.stmt(kids[0]), c.stmt(kids[2]), c.block(kids[3]), c.at(n)
	condition := func(*frame) value { return truth(true) }
	if c.kind(kids[1]) != api.NodeNone {
		condition = c.expr(kids[1])
	}
	var own []int
	if c.kind(kids[0]) == api.NodeDefine {
		for _, name := range c.kids(c.kids(kids[0])[0]) {
			if slot := c.slotOf(name); slot != noSlot {
				own = append(own, slot)
			}
		}
	}
	return func(f *frame) leaving {
		first(f)
		for {
			f.take(at)
			if condition(f) != truth(true) {
				return leaving{}
			}
			if l, ok := block(f).isLeft(n); ok {
				return l
			}
			for _, slot := range own {
				f.define(slot, f.cells[slot].read())
			}
			last(f)
		}
	}
}

// ranging is a Range.
func (c *coder) ranging(n int) stmt {
	kids := c.kids(n)
	x, block, at := c.expr(kids[1]), c.block(kids[2]), c.at(n)
	receive := c.receive(kids[0], c.given(kids[1]))
	return func(f *frame) leaving {
		for key, v := range rounds(x(f)) {
			f.take(at)
			receive(f, key, v)
			if l, ok := block(f).isLeft(n); ok {
				return l
			}
		}
		return leaving{}
	}
}

// given are the types of what a Range over an expression gives in each round.
func (c *coder) given(n int) []*kind {
	of, whole := c.typeOf(n), c.typed(intType)
	switch of.form {
	case api.NodeSliceOf:
		return []*kind{whole, of.part(0)}
	case api.NodeMapOf:
		return []*kind{of.part(0), of.part(1)}
	}
	if c.table.Under(of.id) == textType {
		return []*kind{whole, whole}
	}
	return []*kind{of}
}

// receive gives the left ones of a Range what a round has for them.
func (c *coder) receive(left int, given []*kind) func(f *frame, all ...value) {
	nodes := c.kids(left)
	if len(nodes) == 0 {
		return func(*frame, ...value) {}
	}
	if c.markBehind(left) == api.TokNew {
		var slots []int
		for _, n := range nodes {
			slots = append(slots, c.slotOf(n))
		}
		return func(f *frame, all ...value) {
			for i, slot := range slots {
				f.define(slot, all[i])
			}
		}
	}
	places, to := c.places(nodes), c.kindsAt(nodes)
	return func(f *frame, all ...value) {
		for i, p := range places(f) {
			p.assign(put(all[i], given[i], to[i]))
		}
	}
}

// rounds are what a Range over a value gives: a key or number, and an element, if there are some, as it is when its turn comes.
func rounds(v value) iter.Seq2[value, value] {
	return func(yield func(key, element value) bool) {
		switch x := v.(type) {
		case number:
			for i := number(0); i < x && yield(i, nil); i++ {
			}
		case text:
			for i := 0; i < len(x) && yield(number(i), number(x[i])); i++ {
			}
		case slice:
			for i := 0; i < x.length && yield(number(i), x.in.read(x.from+i)); i++ {
			}
		case mapping:
			x.in.rounds(yield)
		}
	}
}

// rounds are those over a map: the keys of its beginning, but for those that are gone when their turn comes.
func (t *table) rounds(yield func(key, element value) bool) {
	for _, key := range t.rising() {
		if v, ok := t.find(key); ok && !yield(valueOf(key), v) {
			return
		}
	}
}
