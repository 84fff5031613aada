package check

import (
	"moniker/api"
	"moniker/consts"
	"moniker/scope"
)

// expr looks at an expression and all within it.
func (r reader) expr(n int) operand {
	x, err := r.rule(n)
	if err != nil {
		x = r.gaveUp(err)
	}
	r.keep(n, x)
	return x
}

// exprs looks at expressions.
func (r reader) exprs(list []int) []operand {
	var out []operand
	for _, n := range list {
		out = append(out, r.expr(n))
	}
	return out
}

// rule is what an expression is by the rule of its kind.
func (r reader) rule(n int) (operand, error) {
	if id := r.t.Written(r.number, n); id >= 0 {
		return operand{mode: isType, id: id}, nil
	}
	switch r.kind(n) {
	case api.NodeName:
		return r.name(n)
	case api.NodeNumber, api.NodeChar, api.NodeText:
		return r.literal(n)
	case api.NodeParen:
		return r.paren(n)
	case api.NodeBinary:
		return r.binary(n)
	case api.NodeSign:
		return r.sign(n)
	case api.NodeStar:
		return r.star(n)
	case api.NodeSelect:
		return r.selector(n)
	case api.NodeIndex:
		return r.index(n)
	case api.NodeSlice:
		return r.slice(n)
	case api.NodeAssert:
		return r.assert(n)
	case api.NodeCall:
		return r.call(n)
	case api.NodeFuncLit:
		return r.funcLit(n)
	case api.NodeComposite:
		return r.composite(n)
	}
	return operand{}, r.refuse(api.ErrType, n)
}

func (r reader) name(n int) (operand, error) {
	if r.isBlank(n) {
		return operand{}, r.refuse(api.ErrValue, n)
	}
	return r.thing(n, r.s.Bound(r.at(n)))
}

// thing is what a Name, or a qualified Select, is that is bound to a declaration.
func (r reader) thing(n, decl int) (operand, error) {
	if decl < 0 {
		return operand{}, r.refuse(api.ErrUnknown, n)
	}
	switch r.decls[decl].Kind {
	case api.DeclUniverse:
		return r.universal(n, decl)
	case api.DeclImport:
		return operand{}, r.refuse(api.ErrUse, n)
	}
	x := r.asked(decl)
	for _, c := range r.clauses[decl] {
		if at := r.first(n); c.first <= at && at < c.end {
			x = placeOf(c.id)
		}
	}
	return x, settled(x)
}

// universal is what a name of the universe is that is no type.
func (r reader) universal(n, decl int) (operand, error) {
	switch decl {
	case scope.Universe("true"), scope.Universe("false"):
		return constant(noType, api.Val{Sort: api.SortBool, Bool: decl == scope.Universe("true")}), nil
	case scope.Universe("iota"):
		return constant(noType, api.Val{Sort: api.SortInt, Int: r.count}), nil
	case scope.Universe("nil"):
		return operand{mode: isValue, id: noType, isNil: true}, nil
	}
	return operand{}, r.refuse(api.ErrUse, n)
}

// literal is a number, a character or a text.
func (r reader) literal(n int) (operand, error) {
	val, why := consts.Literal(r.tokens[r.first(n)].Kind, r.word(n))
	if why != api.OK {
		return operand{}, r.refuse(why, n)
	}
	return constant(noType, val), nil
}

func (r reader) paren(n int) (operand, error) {
	x := r.expr(r.kids(n)[0])
	return x, settled(x)
}

// star is a Star that is no type.
func (r reader) star(n int) (operand, error) {
	kids := r.kids(n)
	x := r.expr(kids[0])
	if err := settled(x); err != nil {
		return x, err
	}
	if err := r.one(kids, x); err != nil {
		return x, err
	}
	if x.isNil {
		return x, r.refuse(api.ErrNil, kids[0])
	}
	if r.form(x) != api.NodeStar {
		return x, r.refuse(api.ErrOperand, kids[0])
	}
	return placeOf(r.part(x.id, 0)), nil
}

// part is what lies beneath a pointer, slice or map type is made of.
func (r reader) part(id, number int) int {
	parts, _ := r.t.Parts(r.t.Under(id))
	return parts[number]
}

func (r reader) index(n int) (operand, error) {
	kids := r.kids(n)
	x, i := r.expr(kids[0]), r.expr(kids[1])
	if err := settled(x, i); err != nil {
		return x, err
	}
	if err := r.one(kids, x); err != nil {
		return x, err
	}
	form := r.form(x)
	if form != api.NodeSliceOf && form != api.NodeMapOf && !r.is(x, api.SortText) {
		return x, r.refuse(api.ErrOperand, kids[0])
	}
	if err := r.one(kids[1:], i); err != nil {
		return x, err
	}
	if form == api.NodeMapOf {
		return operand{mode: isValue, id: r.part(x.id, 1), isElement: true}, r.give(kids[1], i, r.part(x.id, 0), api.ErrAssign)
	}
	if !r.is(i, api.SortInt) {
		return x, r.refuse(api.ErrOperand, kids[1])
	}
	if form == api.NodeSliceOf {
		return placeOf(r.part(x.id, 0)), nil
	}
	return valueOf(intType), nil
}

func (r reader) slice(n int) (operand, error) {
	kids := r.kids(n)
	x := r.expr(kids[0])
	bounds := kids[1:]
	var all []operand
	for _, b := range bounds {
		bound := constant(noType, api.Val{Sort: api.SortInt}) // one that is not written may be
		if r.kind(b) != api.NodeNone {
			bound = r.expr(b)
		}
		all = append(all, bound)
	}
	if err := settled(append(all, x)...); err != nil {
		return x, err
	}
	if err := r.one(kids, x); err != nil {
		return x, err
	}
	if r.form(x) != api.NodeSliceOf && !r.is(x, api.SortText) {
		return x, r.refuse(api.ErrOperand, kids[0])
	}
	return valueOf(x.typeOf()), r.ints(bounds, all)
}

// ints asks that expressions are one value each, and a whole number.
func (r reader) ints(nodes []int, all []operand) error {
	for i, x := range all {
		if err := r.one(nodes[i:], x); err != nil {
			return err
		}
		if !r.is(x, api.SortInt) {
			return r.refuse(api.ErrOperand, nodes[i])
		}
	}
	return nil
}

func (r reader) assert(n int) (operand, error) {
	kids := r.kids(n)
	x := r.expr(kids[0])
	if err := settled(x); err != nil {
		return x, err
	}
	if err := r.one(kids, x); err != nil {
		return x, err
	}
	if r.form(x) != api.NodeInterface {
		return x, r.refuse(api.ErrOperand, kids[0])
	}
	to := r.t.Written(r.number, kids[1])
	return valueOf(to), r.mayMeet(kids[1], to, x.id)
}

// mayMeet asks that a value of an interface type may be of a type: ErrAssert at the type.
func (r reader) mayMeet(n, id, face int) error {
	if r.t.Form(id) != api.NodeInterface && !r.satisfies(id, face) {
		return r.refuse(api.ErrAssert, n)
	}
	return nil
}

func (r reader) funcLit(n int) (operand, error) {
	if !r.again {
		r.checker.queue = append(r.checker.queue, literal{r.sheet, n, r.count})
	}
	return valueOf(r.t.Func(r.signature(r.sheet, r.kids(n)[0]))), nil
}
