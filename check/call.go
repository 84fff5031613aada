package check

import "moniker/api"

// call is a Call: its arguments' nodes, what they are, the token of its "..." (-1: it has none).
type call struct {
	node  int
	nodes []int
	args  []operand
	dots  int
}

func (r reader) call(n int) (operand, error) {
	kids := r.kids(n)
	c := call{node: n, nodes: r.kids(kids[1])}
	c.dots = r.dotsOf(c)
	if name := r.nativeName(kids[0]); name != "" {
		c.args = r.exprs(c.nodes)
		if err := settled(c.args...); err != nil {
			return operand{}, err
		}
		if c.dots >= 0 && name != "append" {
			return operand{}, &refusal{api.ErrUse, c.dots}
		}
		return r.functions[name](r, c)
	}
	x := r.expr(kids[0])
	c.args = r.exprs(c.nodes)
	if err := settled(append(c.args, x)...); err != nil {
		return operand{}, err
	}
	if x.mode == isType {
		return r.convert(x.id, c)
	}
	if err := r.one(kids, x); err != nil {
		return operand{}, err
	}
	if r.form(x) != api.NodeFuncOf {
		return operand{}, r.refuse(api.ErrCall, kids[0])
	}
	return r.apply(x.id, c)
}

// dotsOf is the token of a Call's "...", which stands behind its last argument.
func (r reader) dotsOf(c call) int {
	if len(c.nodes) == 0 {
		return -1
	}
	for k := r.end(c.nodes[len(c.nodes)-1]); k < r.end(c.node); k++ {
		if r.tokens[k].Kind == api.TokDots {
			return k
		}
	}
	return -1
}

// nativeName is the name of the universe function that a Call's first kid is bound to; "": it is bound to none.
func (r reader) nativeName(n int) string {
	if r.kind(n) != api.NodeName {
		return ""
	}
	d := r.s.Bound(r.at(n))
	if d < 0 || r.decls[d].Kind != api.DeclUniverse || r.functions[r.decls[d].Name] == nil {
		return ""
	}
	return r.decls[d].Name
}

// convert is a Call of a type.
func (r reader) convert(id int, c call) (operand, error) {
	if c.dots >= 0 {
		return operand{}, &refusal{api.ErrUse, c.dots}
	}
	if len(c.args) != 1 {
		return operand{}, r.refuse(api.ErrCount, c.node)
	}
	if err := r.one(c.nodes, c.args...); err != nil {
		return operand{}, err
	}
	x, at := c.args[0], c.nodes[0]
	if s := r.sortOf(id); x.isConst() && s != api.SortNone {
		if x.val.Sort != s {
			return x, r.refuse(api.ErrConvert, at)
		}
		if x.isFree() {
			r.take(at, id)
		}
		return constant(id, x.val), nil
	}
	if !x.isConst() && r.isAlike(x.id, id) {
		return valueOf(id), nil
	}
	return valueOf(id), r.give(at, x, id, api.ErrConvert)
}

// isAlike tells whether the same lies beneath two types, which is no Struct and no Interface.
func (r reader) isAlike(a, b int) bool {
	form := r.t.Form(a)
	return r.t.Under(a) >= 0 && r.t.Under(a) == r.t.Under(b) && form != api.NodeStruct && form != api.NodeInterface
}

// isCallOfSeveral tells whether an expression is a Call, not in ( ), with more results than one.
func (r reader) isCallOfSeveral(n int, x operand) bool {
	return r.kind(n) == api.NodeCall && x.mode == isSeveral
}

// areAssignable asks that each of some types is assignable to its like: ErrAssign at a node.
func (r reader) areAssignable(n int, from, to []int) error {
	for i, id := range from {
		if !r.isAssignable(id, to[i]) {
			return r.refuse(api.ErrAssign, n)
		}
	}
	return nil
}

// apply is a Call of a value of a func type.
func (r reader) apply(id int, c call) (operand, error) {
	if c.dots >= 0 {
		return operand{}, &refusal{api.ErrUse, c.dots}
	}
	params, results := r.t.Parts(r.t.Under(id))
	if len(c.args) == 1 && r.isCallOfSeveral(c.nodes[0], c.args[0]) {
		list := c.args[0].list
		if len(list) != len(params) {
			return operand{}, r.refuse(api.ErrCount, c.node)
		}
		return resultOf(results), r.areAssignable(c.nodes[0], list, params)
	}
	if err := r.one(c.nodes, c.args...); err != nil {
		return operand{}, err
	}
	if len(c.args) != len(params) {
		return operand{}, r.refuse(api.ErrCount, c.node)
	}
	for i, x := range c.args {
		if err := r.give(c.nodes[i], x, params[i], api.ErrAssign); err != nil {
			return operand{}, err
		}
	}
	return resultOf(results), nil
}

// resultOf is what a Call with these results is.
func resultOf(list []int) operand {
	switch len(list) {
	case 0:
		return nothing()
	case 1:
		return valueOf(list[0])
	}
	return operand{mode: isSeveral, id: noType, list: list}
}

// isIdle tells whether a Call does nothing but answer, so that it can't be a statement.
func (r reader) isIdle(n int) bool {
	first := r.kids(n)[0]
	if r.t.Written(r.number, first) >= 0 {
		return true
	}
	switch r.nativeName(first) {
	case "append", "len", "make", "new":
		return true
	}
	return false
}
