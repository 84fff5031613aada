package eval

import (
	"cmp"

	"moniker/api"
)

// binary is a Binary that has taken one.
func (c *coder) binary(n int) expr {
	kids := c.kids(n)
	x, y, op, at := c.expr(kids[0]), c.expr(kids[1]), c.markBehind(kids[0]), c.at(n)
	switch op {
	case api.TokBoth, api.TokEither:
		return func(f *frame) value {
			v := x(f)
			if v == truth(op == api.TokEither) {
				return v
			}
			return y(f)
		}
	}
	return func(f *frame) value {
		v := x(f)
		return operate(op, v, y(f), at)
	}
}

// operate is what an operator other than && and || makes of two values.
func operate(op api.Kind, a, b value, at api.Place) value {
	switch op {
	case api.TokEq:
		return truth(same(a, b))
	case api.TokNe:
		return truth(!same(a, b))
	}
	switch x := a.(type) {
	case text:
		y, _ := b.(text)
		return operateTexts(op, x, y, at)
	case number:
		y, _ := b.(number)
		return operateNumbers(op, x, y, at)
	}
	return nil
}

func operateTexts(op api.Kind, a, b text, at api.Place) value {
	if op != api.TokAdd {
		return ordered(op, a, b)
	}
	if len(a)+len(b) > api.MaxThing {
		fail(api.EndLarge, at)
	}
	return a + b
}

func operateNumbers(op api.Kind, a, b number, at api.Place) value {
	switch op {
	case api.TokAdd:
		return a + b
	case api.TokSub:
		return a - b
	case api.TokMul:
		return a * b
	case api.TokDiv, api.TokRem:
		return divide(op, a, b, at)
	case api.TokAnd:
		return a & b
	case api.TokOr:
		return a | b
	case api.TokXor:
		return a ^ b
	case api.TokAndNot:
		return a &^ b
	case api.TokShl, api.TokShr:
		return shift(op, a, b, at)
	}
	return ordered(op, a, b)
}

func divide(op api.Kind, a, b number, at api.Place) number {
	if b == 0 {
		fail(api.EndZero, at)
	}
	if op == api.TokDiv {
		return a / b
	}
	return a % b
}

func shift(op api.Kind, a, b number, at api.Place) number {
	if b < 0 {
		fail(api.EndShift, at)
	}
	if op == api.TokShl {
		return a << uint64(b)
	}
	return a >> uint64(b)
}

// ordered is a comparison by order.
func ordered[T cmp.Ordered](op api.Kind, a, b T) truth {
	switch op {
	case api.TokLt:
		return a < b
	case api.TokLe:
		return a <= b
	case api.TokGt:
		return a > b
	}
	return a >= b
}

// sign is a Sign that has taken one.
func (c *coder) sign(n int) expr {
	kid := c.kids(n)[0]
	t, _ := c.modules.Token(c.at(n))
	if t.Kind == api.TokAnd {
		return c.address(kid)
	}
	x := c.expr(kid)
	return func(f *frame) value { return signed(t.Kind, x(f)) }
}

func signed(op api.Kind, v value) value {
	switch x := v.(type) {
	case truth:
		return !x
	case number:
		switch op {
		case api.TokSub:
			return -x
		case api.TokXor:
			return ^x
		}
	}
	return v
}

// address is & of a place, or of a Composite, which lies in a new cell.
func (c *coder) address(n int) expr {
	inner := n
	for c.kind(inner) == api.NodeParen {
		inner = c.kids(inner)[0]
	}
	if c.kind(inner) == api.NodeComposite {
		x := c.expr(n)
		return func(f *frame) value { return pointer{&cell{held: x(f)}} }
	}
	find := c.cell(n, false)
	return func(f *frame) value { return pointer{find(f)} }
}
