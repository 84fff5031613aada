package check

import (
	"moniker/api"
	"moniker/consts"
)

// pair is two operands, the nodes at which they stand, and the operator with its token.
type pair struct {
	reader
	nodes       []int
	left, right operand
	op          api.Kind
	token       int
}

func (r reader) binary(n int) (operand, error) {
	kids := r.kids(n)
	mark := r.markBehind(kids[0])
	p := pair{r, kids, r.expr(kids[0]), r.expr(kids[1]), r.tokens[mark].Kind, mark}
	if err := settled(p.left, p.right); err != nil {
		return operand{}, err
	}
	return p.joined()
}

// joined is what the operator makes of the operands.
func (p pair) joined() (operand, error) {
	if err := p.one(p.nodes, p.left, p.right); err != nil {
		return operand{}, err
	}
	switch p.op {
	case api.TokShl, api.TokShr:
		return p.shift()
	case api.TokEq, api.TokNe, api.TokLt, api.TokLe, api.TokGt, api.TokGe:
		return p.compare()
	}
	return p.reckon()
}

// wrong is a fault at the operator.
func (p pair) wrong(why api.Errno) error { return &refusal{why, p.token} }

// value is the constant that the operator makes of two; none, if one of them is no constant.
func (p pair) value() (api.Val, error) {
	if !p.left.isConst() || !p.right.isConst() {
		return api.Val{}, nil
	}
	val, why := consts.Binary(p.op, p.left.val, p.right.val)
	if why != api.OK {
		return val, p.wrong(api.ErrConst)
	}
	return val, nil
}

// mix gives a free operand the type of the other one, and asks that two types go together; the type is that of both, none of free ones.
func (p pair) mix(together func(a, b int) bool) (int, error) {
	switch left, right := p.left, p.right; {
	case left.isFree() && right.isFree():
		if left.val.Sort != right.val.Sort {
			return noType, p.wrong(api.ErrMix)
		}
		return noType, nil
	case left.isFree():
		if p.sortOf(right.id) != left.val.Sort {
			return noType, p.wrong(api.ErrMix)
		}
		p.take(p.nodes[0], right.id)
		return right.id, nil
	case right.isFree():
		if p.sortOf(left.id) != right.val.Sort {
			return noType, p.wrong(api.ErrMix)
		}
		p.take(p.nodes[1], left.id)
		return left.id, nil
	case !together(left.id, right.id):
		return noType, p.wrong(api.ErrMix)
	}
	return p.left.id, nil
}

// reckon is an operator on two of one type.
func (p pair) reckon() (operand, error) {
	for i, x := range []operand{p.left, p.right} {
		if x.isNil {
			return x, p.refuse(api.ErrOperand, p.nodes[i])
		}
	}
	id, err := p.mix(func(a, b int) bool { return a == b })
	if err != nil {
		return operand{}, err
	}
	wanted := api.SortInt
	switch {
	case p.op == api.TokBoth || p.op == api.TokEither:
		wanted = api.SortBool
	case p.op == api.TokAdd && p.is(p.left, api.SortText):
		wanted = api.SortText
	}
	if !p.is(p.left, wanted) {
		return operand{}, p.refuse(api.ErrOperand, p.nodes[0])
	}
	val, err := p.value()
	return constant(id, val), err
}

func (p pair) shift() (operand, error) {
	for i, x := range []operand{p.left, p.right} {
		if !p.is(x, api.SortInt) {
			return x, p.refuse(api.ErrOperand, p.nodes[i])
		}
	}
	val, err := p.value()
	if p.left.isFree() && !p.right.isConst() {
		return valueOf(intType), err
	}
	return constant(p.left.id, val), err
}

func (p pair) compare() (operand, error) {
	if p.left.isNil || p.right.isNil {
		return valueOf(boolType), p.compareNil()
	}
	together := func(a, b int) bool { return p.isAssignable(a, b) || p.isAssignable(b, a) }
	if _, err := p.mix(together); err != nil {
		return operand{}, err
	}
	for i, x := range []operand{p.left, p.right} {
		if !p.mayCompare(x) {
			return x, p.refuse(api.ErrOperand, p.nodes[i])
		}
	}
	val, err := p.value()
	if val.Sort != api.SortNone {
		return constant(noType, val), nil
	}
	return valueOf(boolType), err
}

func (p pair) asksSame() bool { return p.op == api.TokEq || p.op == api.TokNe }

// mayCompare tells whether the operator goes with a value.
func (p pair) mayCompare(x operand) bool {
	if p.is(x, api.SortInt) || p.is(x, api.SortText) {
		return true
	}
	return p.asksSame() && (p.is(x, api.SortBool) || p.form(x) == api.NodeStar)
}

// compareNil is a comparison with nil, which takes the type of the other one.
func (p pair) compareNil() error {
	none, other := 0, p.right
	if p.right.isNil {
		none, other = 1, p.left
	}
	if form := p.form(other); form != api.NodeInterface && !mayBeNil(form) {
		return p.wrong(api.ErrMix)
	}
	if !p.asksSame() {
		return p.refuse(api.ErrOperand, p.nodes[0])
	}
	p.take(p.nodes[none], other.id)
	return nil
}

func (r reader) sign(n int) (operand, error) {
	kids := r.kids(n)
	x := r.expr(kids[0])
	if err := settled(x); err != nil {
		return x, err
	}
	if err := r.one(kids, x); err != nil {
		return x, err
	}
	op := r.tokens[r.first(n)].Kind
	wanted := api.SortInt
	switch op {
	case api.TokAnd:
		return r.address(n, x)
	case api.TokNot:
		wanted = api.SortBool
	}
	if !r.is(x, wanted) {
		return x, r.refuse(api.ErrOperand, kids[0])
	}
	if !x.isConst() {
		return valueOf(x.id), nil
	}
	val, why := consts.Unary(op, x.val)
	if why != api.OK {
		return x, r.refuse(api.ErrConst, n)
	}
	return constant(x.id, val), nil
}

// address is the Sign &: of a place, or of a Composite.
func (r reader) address(n int, x operand) (operand, error) {
	kid := n
	for kid == n || r.kind(kid) == api.NodeParen {
		kid = r.kids(kid)[0]
	}
	if !x.isPlace && r.kind(kid) != api.NodeComposite {
		return x, r.refuse(api.ErrPlace, n)
	}
	return valueOf(r.t.Pointer(x.id)), nil
}
