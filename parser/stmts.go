package parser

import "moniker/api"

// form is where a Simple stands, as far as that says what it may be.
type form int

const (
	inBlock  form = iota // in an If's header too
	inSwitch             // may be a Guard
	inFor                // may go on with range
	inPost               // may be no Define
)

func (r *reader) block() *part {
	first := r.expect(api.TokBegin)
	r.bare = false
	stmts := r.members(api.TokEnd, r.statement)
	return r.node(api.NodeBlock, first, stmts...)
}

func (r *reader) statement() *part {
	switch r.kind() {
	case api.TokConst, api.TokVar, api.TokType:
		return r.declaration()
	case api.TokBegin:
		return r.block()
	case api.TokIf:
		return r.branch()
	case api.TokSwitch:
		return r.choice()
	case api.TokFor:
		return r.loop()
	case api.TokReturn:
		return r.giveBack()
	case api.TokBreak:
		return r.leave(api.NodeBreak)
	case api.TokContinue:
		return r.leave(api.NodeContinue)
	case api.TokFallthrough:
		return r.leaf(api.NodeFall)
	case api.TokSemi, api.TokAuto, api.TokEnd:
		return r.empty(api.NodeEmpty)
	case api.TokName:
		if r.peek(1) == api.TokColon {
			return r.label()
		}
		fallthrough
	default:
		return r.simple(inBlock)
	}
}

func (r *reader) label() *part {
	name := r.name()
	r.take()
	of := r.statement()
	return r.node(api.NodeLabel, name.first, name, of)
}

func (r *reader) giveBack() *part {
	first, values := r.take(), r.empty(api.NodeList)
	if !r.atEnd() {
		values = r.list(r.expression)
	}
	return r.node(api.NodeReturn, first, values)
}

func (r *reader) leave(kind api.NodeKind) *part {
	first, name := r.take(), r.none()
	if r.kind() == api.TokName {
		name = r.name()
	}
	return r.node(kind, first, name)
}

// atEnd tells whether a statement ends here.
func (r *reader) atEnd() bool { return r.atSemicolon() || r.kind() == api.TokEnd }

// simple reads a Simple that is written. Two are left half read, for the header that asked: a Range ahead of its range, with its left side; a Match ahead of its . , with its name, if it has one, and its expression.
func (r *reader) simple(where form) *part {
	left := r.list(r.expression)
	k := r.kind()
	switch {
	case r.atGuard():
		return r.node(api.NodeMatch, left.first, left.kids[0])
	case k == api.TokNew:
		if where == inPost || !allNames(left) {
			r.fail()
		}
		if where == inSwitch && len(left.kids) == 1 {
			r.guard = r.next + 1
		}
		fallthrough
	case assigns(k):
		return r.assignment(where, left)
	case len(left.kids) > 1:
		return r.fail()
	case k == api.TokInc || k == api.TokDec:
		r.take()
		return r.node(api.NodeStep, left.first, left.kids[0])
	}
	return r.node(api.NodeDo, left.first, left.kids[0])
}

// assignment reads what stands behind the left side of an Assign or Define.
func (r *reader) assignment(where form, left *part) *part {
	kind, sign := api.NodeAssign, r.kind()
	if sign == api.TokNew {
		kind = api.NodeDefine
	}
	r.take()
	if r.kind() == api.TokRange && mayRange(where, sign, left) {
		return r.node(api.NodeRange, left.first, left)
	}
	right := r.list(r.expression)
	if r.atGuard() {
		return r.node(api.NodeMatch, left.first, left.kids[0], right.kids[0])
	}
	return r.node(kind, left.first, left, right)
}

func mayRange(where form, sign api.Kind, left *part) bool {
	return where == inFor && (sign == api.TokIs || sign == api.TokNew) && len(left.kids) <= 2
}

func allNames(list *part) bool {
	for _, kid := range list.kids {
		if kid.kind != api.NodeName {
			return false
		}
	}
	return true
}

func assigns(k api.Kind) bool {
	switch k {
	case api.TokIs, api.TokAddIs, api.TokSubIs, api.TokMulIs, api.TokDivIs, api.TokRemIs, api.TokAndIs, api.TokOrIs,
		api.TokXorIs, api.TokShlIs, api.TokShrIs, api.TokAndNotIs:
		return true
	}
	return false
}
