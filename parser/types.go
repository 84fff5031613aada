package parser

import "moniker/api"

// beginsType tells whether a type may begin with a token of that kind.
func beginsType(k api.Kind) bool {
	switch k {
	case api.TokName, api.TokMul, api.TokOpenAt, api.TokMap, api.TokFunc, api.TokOpen:
		return true
	}
	return false
}

func (r *reader) typ() *part {
	switch r.kind() {
	case api.TokName:
		return r.typeName()
	case api.TokMul:
		return r.star(r.typ)
	case api.TokOpenAt:
		return r.sliceOf()
	case api.TokMap:
		return r.mapOf()
	case api.TokFunc:
		first := r.take()
		return r.node(api.NodeFuncOf, first, r.shape())
	case api.TokOpen:
		return r.paren(r.typ)
	}
	return r.fail()
}

// typeName reads a name; a . behind it always goes on it.
func (r *reader) typeName() *part {
	name := r.name()
	if r.kind() != api.TokDot {
		return name
	}
	r.take()
	return r.node(api.NodeSelect, name.first, name, r.name())
}

// starName reads a type's name that may have a * ahead.
func (r *reader) starName() *part {
	if r.kind() == api.TokMul {
		return r.star(r.typeName)
	}
	return r.typeName()
}

// star reads a * and what stands behind it.
func (r *reader) star(of func() *part) *part {
	first := r.take()
	kid := of()
	return r.node(api.NodeStar, first, kid)
}

// paren reads ( ) around a type or an expression.
func (r *reader) paren(of func() *part) *part {
	first := r.take()
	kid := r.inside(of)
	r.expect(api.TokClose)
	return r.node(api.NodeParen, first, kid)
}

func (r *reader) sliceOf() *part {
	first := r.take()
	r.expect(api.TokCloseAt)
	of := r.typ()
	return r.node(api.NodeSliceOf, first, of)
}

func (r *reader) mapOf() *part {
	first := r.take()
	r.expect(api.TokOpenAt)
	key := r.typ()
	r.expect(api.TokCloseAt)
	of := r.typ()
	return r.node(api.NodeMapOf, first, key, of)
}

func (r *reader) sig() *part { return r.signature(api.NodeSig, r.param) }

func (r *reader) shape() *part { return r.signature(api.NodeShape, r.typ) }

// signature reads parameters in ( ) and what stands behind them.
func (r *reader) signature(kind api.NodeKind, param func() *part) *part {
	first := r.expect(api.TokOpen)
	params := r.anyTo(api.TokClose, param)
	r.comma()
	r.expect(api.TokClose)
	results := r.results()
	return r.node(kind, first, params, results)
}

func (r *reader) param() *part {
	names := r.list(r.name)
	of := r.typ()
	return r.node(api.NodeParam, names.first, names, of)
}

// results reads what the parameters' ) is followed by; a ( begins a list there, no type.
func (r *reader) results() *part {
	switch {
	case r.kind() == api.TokOpen:
		r.take()
		types := r.listTo(api.TokClose, r.typ)
		r.comma()
		r.expect(api.TokClose)
		return types
	case beginsType(r.kind()):
		of := r.typ()
		return r.node(api.NodeList, of.first, of)
	}
	return r.empty(api.NodeList)
}
