package check

import "moniker/api"

// target is a left one: what a value goes into.
type target struct {
	node    int
	isRight bool
	isNew   bool
	id      int // the type that a value takes there; noType: none is asked for
}

// newOnes are the Names of a VarSpec, or of a Range with :=; those with a type are of it.
func (r reader) newOnes(names []int, id int) []target {
	var out []target
	for _, n := range names {
		out = append(out, target{n, true, true, id})
		if id >= 0 {
			r.make(n, placeOf(id))
		}
	}
	return out
}

// defined are the Names of a Define: new ones, and such as are used.
func (r reader) defined(names []int) []target {
	var out []target
	for _, n := range names {
		if r.isBlank(n) || r.s.Makes(r.at(n)) >= 0 {
			out = append(out, target{n, true, true, noType})
			continue
		}
		if d := r.s.Bound(r.at(n)); d >= 0 && r.decls[d].Kind != api.DeclVar {
			r.settle(r.refuse(api.ErrPlace, n))
			out = append(out, target{node: n})
			continue
		}
		out = append(out, r.left(n))
	}
	return out
}

// left is a left one of an Assign, or of a Range with =.
func (r reader) left(n int) target {
	if r.isBlank(n) {
		return target{n, true, false, noType}
	}
	x := r.expr(n)
	return target{n, r.settle(r.isPlace(n, x)), false, x.id}
}

// isPlace asks that an expression is a place or a map element.
func (r reader) isPlace(n int, x operand) error {
	if err := settled(x); err != nil {
		return err
	}
	if err := r.one([]int{n}, x); err != nil {
		return err
	}
	if !x.mayBeSet() {
		return r.refuse(api.ErrPlace, n)
	}
	return nil
}

// assign gives values to left ones: as many as there are, or those of one expression.
func (r reader) assign(targets []target, exprs []int) {
	if len(exprs) == len(targets) {
		for i, t := range targets {
			r.value(t, exprs[i])
		}
		return
	}
	var all []operand
	for _, e := range exprs {
		all = append(all, r.once(e))
	}
	if len(exprs) == 0 || settled(all...) != nil {
		return
	}
	for _, t := range targets {
		if !t.isRight {
			return
		}
	}
	if list := r.spread(targets, exprs, all); list != nil {
		for i, x := range list {
			r.settle(r.suits(targets[i], exprs[0], x))
		}
		return
	}
	r.settle(r.refuse(api.ErrCount, targets[0].node))
}

// spread are the values of one expression for several left ones; none, if it has not as many.
func (r reader) spread(targets []target, exprs []int, all []operand) []operand {
	if len(exprs) != 1 {
		return nil
	}
	n, x := exprs[0], all[0]
	var out []operand
	switch {
	case r.isCallOfSeveral(n, x) && len(x.list) == len(targets):
		for _, id := range x.list {
			out = append(out, valueOf(id))
		}
	case len(targets) == 2 && (r.kind(n) == api.NodeIndex && x.isElement || r.kind(n) == api.NodeAssert):
		isThere := constant(noType, api.Val{Sort: api.SortBool}) // free, though no constant
		out = []operand{valueOf(x.id), isThere}
	}
	return out
}

// value looks at the expression of a left one.
func (r reader) value(t target, n int) {
	x := r.once(n)
	if !t.isRight || !r.settle(settled(x)) || !r.settle(r.one([]int{n}, x)) {
		return
	}
	if t.id >= 0 {
		r.settle(r.give(n, x, t.id, api.ErrAssign))
		return
	}
	r.settle(r.suits(t, n, x))
}

// suits asks whether a value, that of an expression or a part of it, may go into a left one; a new one is of its type.
func (r reader) suits(t target, n int, x operand) error {
	switch {
	case t.id >= 0 && !r.fits(x, t.id):
		return r.refuse(api.ErrAssign, n)
	case t.id >= 0:
		return nil
	case x.isNil:
		return r.refuse(api.ErrNil, n)
	}
	if t.isNew {
		r.make(t.node, placeOf(x.typeOf()))
	}
	return nil
}
