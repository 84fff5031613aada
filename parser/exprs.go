package parser

import "moniker/api"

// strengths are how strong the operators bind; 0: no operator.
var strengths = [api.KindCount]int{
	api.TokMul: 5, api.TokDiv: 5, api.TokRem: 5, api.TokShl: 5, api.TokShr: 5, api.TokAnd: 5, api.TokAndNot: 5,
	api.TokAdd: 4, api.TokSub: 4, api.TokOr: 4, api.TokXor: 4,
	api.TokEq: 3, api.TokNe: 3, api.TokLt: 3, api.TokLe: 3, api.TokGt: 3, api.TokGe: 3,
	api.TokBoth: 2, api.TokEither: 1,
}

func strength(k api.Kind) int {
	if k >= api.KindCount {
		return 0
	}
	return strengths[k]
}

func (r *reader) expression() *part { return r.binary(1) }

// binary reads operands joined by operators that bind at least so strong.
func (r *reader) binary(least int) *part {
	left := r.unary()
	for {
		s := strength(r.kind())
		if s < least {
			return left
		}
		r.take()
		right := r.binary(s + 1)
		left = r.node(api.NodeBinary, left.first, left, right)
	}
}

func (r *reader) unary() *part {
	switch r.kind() {
	case api.TokMul:
		return r.star(r.unary)
	case api.TokAdd, api.TokSub, api.TokNot, api.TokXor, api.TokAnd:
		first := r.take()
		of := r.unary()
		return r.node(api.NodeSign, first, of)
	}
	return r.primary()
}

// primary reads an operand and what goes on it. Ahead of a Guard's . it ends: the header reads that.
func (r *reader) primary() *part {
	mayGuard := r.next == r.guard
	x := r.operand()
	for {
		switch r.kind() {
		case api.TokDot:
			if mayGuard && r.atGuard() {
				return x
			}
			x = r.dotted(x)
		case api.TokOpenAt:
			x = r.index(x)
		case api.TokOpen:
			x = r.call(x)
		case api.TokBegin:
			if !r.mayCompose(x) {
				return x
			}
			x = r.composite(x)
		default:
			return x
		}
	}
}

func (r *reader) atGuard() bool {
	return r.kind() == api.TokDot && r.peek(1) == api.TokOpen && r.peek(2) == api.TokType
}

func (r *reader) operand() *part {
	switch r.kind() {
	case api.TokNumber:
		return r.leaf(api.NodeNumber)
	case api.TokChar:
		return r.leaf(api.NodeChar)
	case api.TokText:
		return r.leaf(api.NodeText)
	case api.TokName:
		return r.name()
	case api.TokOpen:
		return r.paren(r.expression)
	case api.TokFunc:
		return r.funcLit()
	case api.TokOpenAt, api.TokMap:
		return r.typ()
	}
	return r.fail()
}

func (r *reader) funcLit() *part {
	first := r.take()
	sig := r.sig()
	body := r.inside(r.block)
	return r.node(api.NodeFuncLit, first, sig, body)
}

func (r *reader) dotted(x *part) *part {
	r.take()
	if r.kind() != api.TokOpen {
		return r.node(api.NodeSelect, x.first, x, r.name())
	}
	r.take()
	of := r.typ()
	r.expect(api.TokClose)
	return r.node(api.NodeAssert, x.first, x, of)
}

func (r *reader) index(x *part) *part {
	r.take()
	low := r.bound(api.TokColon)
	if low.kind != api.NodeNone && r.kind() == api.TokCloseAt {
		r.take()
		return r.node(api.NodeIndex, x.first, x, low)
	}
	r.expect(api.TokColon)
	high := r.bound(api.TokCloseAt)
	r.expect(api.TokCloseAt)
	return r.node(api.NodeSlice, x.first, x, low, high)
}

// bound reads an expression in [ ], or None where the token that ends it stands already.
func (r *reader) bound(end api.Kind) *part {
	if r.kind() == end {
		return r.none()
	}
	return r.inside(r.expression)
}

func (r *reader) call(x *part) *part {
	r.take()
	args := r.inside(r.arguments)
	r.expect(api.TokClose)
	return r.node(api.NodeCall, x.first, x, args)
}

func (r *reader) arguments() *part {
	args := r.anyTo(api.TokClose, r.expression)
	if r.kind() == api.TokDots {
		r.take()
	}
	r.comma()
	return args
}

// mayCompose tells whether a { goes on an expression.
func (r *reader) mayCompose(x *part) bool {
	switch x.kind {
	case api.NodeSliceOf, api.NodeMapOf:
		return true
	case api.NodeSelect:
		return !r.bare && x.kids[0].kind == api.NodeName
	case api.NodeName:
		return !r.bare
	}
	return false
}

func (r *reader) composite(of *part) *part {
	r.take()
	elements := r.inside(r.elements)
	r.expect(api.TokEnd)
	return r.node(api.NodeComposite, of.first, of, elements)
}

func (r *reader) elements() *part {
	elements := r.anyTo(api.TokEnd, r.element)
	r.comma()
	return elements
}

func (r *reader) element() *part {
	x := r.expression()
	if r.kind() != api.TokColon {
		return x
	}
	r.take()
	return r.node(api.NodePair, x.first, x, r.expression())
}
