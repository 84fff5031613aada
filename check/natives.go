package check

import "moniker/api"

// native is the rule of a function of the universe.
type native func(reader, call) (operand, error)

// natives are the functions of the universe by their names.
func natives() map[string]native {
	return map[string]native{
		"append": reader.nativeAppend,
		"copy":   reader.nativeCopy,
		"delete": reader.nativeDelete,
		"len":    reader.nativeLen,
		"make":   reader.nativeMake,
		"new":    reader.nativeNew,
		"panic":  reader.nativePanic,
		"print":  reader.nativePrint,
	}
}

// counted asks that a Call has so many arguments, each of them one value.
func (r reader) counted(c call, count int) error {
	if len(c.args) != count {
		return r.refuse(api.ErrCount, c.node)
	}
	return r.one(c.nodes, c.args...)
}

func (r reader) nativeAppend(c call) (operand, error) {
	hasDots := c.dots >= 0
	if len(c.args) == 0 || hasDots && len(c.args) != 2 {
		return operand{}, r.refuse(api.ErrCount, c.node)
	}
	if err := r.one(c.nodes, c.args...); err != nil {
		return operand{}, err
	}
	to := c.args[0]
	if r.form(to) != api.NodeSliceOf {
		return operand{}, r.refuse(api.ErrOperand, c.nodes[0])
	}
	if hasDots {
		return valueOf(to.id), r.appendAll(c.nodes[1], c.args[1], to.id)
	}
	for i, x := range c.args[1:] {
		if err := r.give(c.nodes[i+1], x, r.part(to.id, 0), api.ErrAssign); err != nil {
			return operand{}, err
		}
	}
	return valueOf(to.id), nil
}

// appendAll asks that what stands ahead of "..." is of the type to which it is appended.
func (r reader) appendAll(n int, x operand, to int) error {
	if x.isNil {
		r.take(n, to)
		return nil
	}
	if x.id != to {
		return r.refuse(api.ErrAssign, n)
	}
	return nil
}

func (r reader) nativeCopy(c call) (operand, error) {
	if err := r.counted(c, 2); err != nil {
		return operand{}, err
	}
	for i, x := range c.args {
		if r.form(x) != api.NodeSliceOf {
			return operand{}, r.refuse(api.ErrOperand, c.nodes[i])
		}
	}
	if r.part(c.args[0].id, 0) != r.part(c.args[1].id, 0) {
		return operand{}, r.refuse(api.ErrAssign, c.nodes[1])
	}
	return valueOf(intType), nil
}

func (r reader) nativeDelete(c call) (operand, error) {
	if err := r.counted(c, 2); err != nil {
		return operand{}, err
	}
	m := c.args[0]
	if r.form(m) != api.NodeMapOf {
		return operand{}, r.refuse(api.ErrOperand, c.nodes[0])
	}
	return nothing(), r.give(c.nodes[1], c.args[1], r.part(m.id, 0), api.ErrAssign)
}

func (r reader) nativeLen(c call) (operand, error) {
	if err := r.counted(c, 1); err != nil {
		return operand{}, err
	}
	x := c.args[0]
	form := r.form(x)
	if form != api.NodeSliceOf && form != api.NodeMapOf && !r.is(x, api.SortText) {
		return operand{}, r.refuse(api.ErrOperand, c.nodes[0])
	}
	if x.isConst() {
		return constant(noType, api.Val{Sort: api.SortInt, Int: int64(len(x.val.Text))}), nil
	}
	return valueOf(intType), nil
}

// typed asks that the first argument of a Call is a type.
func (r reader) typed(c call) error {
	if c.args[0].mode != isType {
		return r.refuse(api.ErrType, c.nodes[0])
	}
	return nil
}

func (r reader) nativeMake(c call) (operand, error) {
	if len(c.args) == 0 {
		return operand{}, r.refuse(api.ErrCount, c.node)
	}
	if err := r.typed(c); err != nil {
		return operand{}, err
	}
	id := c.args[0].id
	least, most := 2, 3
	switch r.t.Form(id) {
	case api.NodeSliceOf:
	case api.NodeMapOf:
		least, most = 1, 1
	default:
		return operand{}, r.refuse(api.ErrOperand, c.nodes[0])
	}
	if len(c.args) < least || len(c.args) > most {
		return operand{}, r.refuse(api.ErrCount, c.node)
	}
	if err := r.one(c.nodes[1:], c.args[1:]...); err != nil {
		return operand{}, err
	}
	return valueOf(id), r.ints(c.nodes[1:], c.args[1:])
}

func (r reader) nativeNew(c call) (operand, error) {
	if len(c.args) != 1 {
		return operand{}, r.refuse(api.ErrCount, c.node)
	}
	return valueOf(r.t.Pointer(c.args[0].id)), r.typed(c)
}

func (r reader) nativePanic(c call) (operand, error) {
	if err := r.counted(c, 1); err != nil {
		return operand{}, err
	}
	if x := c.args[0]; !r.is(x, api.SortInt) && !r.is(x, api.SortText) {
		return operand{}, r.refuse(api.ErrOperand, c.nodes[0])
	}
	return nothing(), nil
}

func (r reader) nativePrint(c call) (operand, error) {
	if err := r.one(c.nodes, c.args...); err != nil {
		return operand{}, err
	}
	for i, x := range c.args {
		if !r.is(x, api.SortBool) && !r.is(x, api.SortInt) && !r.is(x, api.SortText) {
			return operand{}, r.refuse(api.ErrOperand, c.nodes[i])
		}
	}
	return nothing(), nil
}
