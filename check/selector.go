package check

import (
	"slices"

	"moniker/api"
)

func (r reader) selector(n int) (operand, error) {
	kids := r.kids(n)
	if r.isImport(kids[0]) {
		if r.isBlank(kids[1]) {
			return operand{}, r.refuse(api.ErrMember, kids[1])
		}
		return r.thing(n, r.s.Bound(r.at(kids[1])))
	}
	x := r.expr(kids[0])
	if err := settled(x); err != nil {
		return x, err
	}
	if x.mode == isType {
		return r.methodOf(x.id, kids[1])
	}
	if err := r.one(kids, x); err != nil {
		return x, err
	}
	return r.memberOf(x, kids[1])
}

func (r reader) isImport(n int) bool {
	if r.kind(n) != api.NodeName {
		return false
	}
	d := r.s.Bound(r.at(n))
	return d >= 0 && r.decls[d].Kind == api.DeclImport
}

// found is a member, and how it was found.
type found struct {
	in        int  // the declared type in which it was looked up
	isPointed bool // in a * of that type
	decl      int
	way       []int
}

// look finds what a Name is in a type or the * of one: ErrMember at the Name.
func (r reader) look(id, name int) (found, error) {
	out := found{in: id}
	if r.t.Under(id) == id && r.t.Form(id) == api.NodeStar { // so it is not declared
		out.in, out.isPointed = r.part(id, 0), true
		if form := r.t.Form(out.in); form == api.NodeInterface || form == api.NodeStar {
			return out, r.refuse(api.ErrMember, name)
		}
	}
	out.decl, out.way, _ = r.t.Look(out.in, r.word(name))
	if out.decl < 0 {
		return out, r.refuse(api.ErrMember, name)
	}
	return out, nil
}

// isMethod tells whether a find is a method, and no field.
func (r reader) isMethod(f found) bool {
	return r.decls[f.decl].Kind == api.DeclMethod || r.decls[f.decl].Kind == api.DeclShape
}

// isInSet tells whether a method that was found is in the method set of the type, or, where * of it can be taken, in that of its *.
func (r reader) isInSet(f found, isPlace bool) bool {
	if f.isPointed || isPlace || !r.starred[f.decl] {
		return true
	}
	return slices.ContainsFunc(f.way, func(field int) bool { return r.t.Form(r.t.Of(field)) == api.NodeStar })
}

// note keeps what the Name of a Select is bound to.
func (r reader) note(name int, f found) {
	if !r.again {
		r.Checks.found[r.at(name)] = member{f.in, f.decl}
	}
}

// methodOf is a method expression of a type.
func (r reader) methodOf(id, name int) (operand, error) {
	f, err := r.look(id, name)
	if err != nil {
		return operand{}, err
	}
	if !r.isMethod(f) || !r.isInSet(f, false) {
		return operand{}, r.refuse(api.ErrMember, name)
	}
	r.note(name, f)
	params, results := r.t.Parts(r.t.Of(f.decl))
	return valueOf(r.t.Func(append([]int{id}, params...), results)), nil
}

// memberOf is the field or method of a value.
func (r reader) memberOf(x operand, name int) (operand, error) {
	f, err := r.look(x.id, name)
	if err != nil {
		return operand{}, err
	}
	if r.isMethod(f) && !r.isInSet(f, x.isPlace) {
		return operand{}, r.refuse(api.ErrMember, name)
	}
	r.note(name, f)
	id := r.t.Of(f.decl)
	if !r.isMethod(f) && (x.isPlace || f.isPointed) {
		return placeOf(id), nil
	}
	return valueOf(id), nil
}
