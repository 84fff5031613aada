package parser

import "moniker/api"

func (r *reader) file() *part {
	first := r.expect(api.TokPackage)
	name := r.name()
	r.semicolon()
	imports := r.rows(func() bool { return r.kind() == api.TokImport }, r.importing)
	decls := r.rows(func() bool { return r.next < len(r.kinds) }, r.topDeclaration)
	return r.node(api.NodeFile, first, name, imports, decls)
}

func (r *reader) importing() *part { return r.group(api.NodeImport, r.importSpec) }

func (r *reader) topDeclaration() *part {
	if r.kind() == api.TokFunc {
		return r.function()
	}
	return r.declaration()
}

// declaration reads one that may stand in a Block too.
func (r *reader) declaration() *part {
	switch r.kind() {
	case api.TokConst:
		return r.group(api.NodeConst, r.constSpec)
	case api.TokVar:
		return r.group(api.NodeVar, r.varSpec)
	case api.TokType:
		return r.group(api.NodeTypes, r.typeSpec)
	}
	return r.fail()
}

// group reads a keyword with one spec, or with any number in ( ).
func (r *reader) group(kind api.NodeKind, spec func() *part) *part {
	first := r.take()
	if r.kind() != api.TokOpen {
		return r.node(kind, first, spec())
	}
	r.take()
	specs := r.members(api.TokClose, spec)
	return r.node(kind, first, specs...)
}

func (r *reader) importSpec() *part {
	first, name := r.place(), r.none()
	if r.kind() == api.TokName {
		name = r.name()
	}
	path := r.node(api.NodeText, r.expect(api.TokText))
	return r.node(api.NodeImportSpec, first, name, path)
}

func (r *reader) constSpec() *part {
	spec := r.spec(api.NodeConstSpec)
	if of, values := spec.kids[1], spec.kids[2]; of.kind != api.NodeNone && len(values.kids) == 0 {
		r.fail()
	}
	return spec
}

func (r *reader) varSpec() *part {
	spec := r.spec(api.NodeVarSpec)
	if of, values := spec.kids[1], spec.kids[2]; of.kind == api.NodeNone && len(values.kids) == 0 {
		r.fail()
	}
	return spec
}

// spec reads names with a type and values, either of which may be left out.
func (r *reader) spec(kind api.NodeKind) *part {
	names := r.list(r.name)
	of := r.none()
	if beginsType(r.kind()) {
		of = r.typ()
	}
	values := r.empty(api.NodeList)
	if r.kind() == api.TokIs {
		r.take()
		values = r.list(r.expression)
	}
	return r.node(kind, names.first, names, of, values)
}

func (r *reader) typeSpec() *part {
	name := r.name()
	var right *part
	switch r.kind() {
	case api.TokStruct:
		right = r.body(api.NodeStruct, r.field)
	case api.TokInterface:
		right = r.body(api.NodeInterface, r.method)
	default:
		right = r.typ()
	}
	return r.node(api.NodeTypeSpec, name.first, name, right)
}

// body reads struct or interface with its members.
func (r *reader) body(kind api.NodeKind, member func() *part) *part {
	first := r.take()
	r.expect(api.TokBegin)
	members := r.members(api.TokEnd, member)
	return r.node(kind, first, members...)
}

func (r *reader) field() *part {
	after := r.peek(1)
	if r.kind() != api.TokName || after != api.TokComma && !beginsType(after) {
		return r.embed(r.starName)
	}
	names := r.list(r.name)
	of := r.typ()
	return r.node(api.NodeField, names.first, names, of)
}

func (r *reader) method() *part {
	if r.kind() != api.TokName || r.peek(1) != api.TokOpen {
		return r.embed(r.typeName)
	}
	name := r.name()
	shape := r.shape()
	return r.node(api.NodeMethod, name.first, name, shape)
}

func (r *reader) embed(of func() *part) *part {
	kid := of()
	return r.node(api.NodeEmbed, kid.first, kid)
}

func (r *reader) function() *part {
	first, recv := r.take(), r.none()
	if r.kind() == api.TokOpen {
		recv = r.receiver()
	}
	name := r.name()
	sig := r.sig()
	body := r.block()
	return r.node(api.NodeFunc, first, recv, name, sig, body)
}

func (r *reader) receiver() *part {
	first, name := r.take(), r.none()
	if after := r.peek(1); r.kind() == api.TokName && (after == api.TokName || after == api.TokMul) {
		name = r.name()
	}
	of := r.starName()
	r.expect(api.TokClose)
	return r.node(api.NodeRecv, first, name, of)
}
