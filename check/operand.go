package check

import (
	"errors"

	"moniker/api"
)

// mode is what an expression is.
type mode uint8

const (
	isFaulty  mode = iota // it has a fault, or what lies within it
	isUntyped             // what gives it its type has a fault
	isNothing
	isValue
	isSeveral
	isType
)

// operand is what is known of an expression while it is looked at.
type operand struct {
	mode      mode
	id        int     // its type; noType: it is free, or nil
	val       api.Val // of a constant
	isNil     bool
	isPlace   bool
	isElement bool // of a map
	list      []int
}

const noType = -1

// The universe's types.
const (
	boolType = iota
	intType
	textType
)

func valueOf(id int) operand { return operand{mode: isValue, id: id} }

func placeOf(id int) operand { return operand{mode: isValue, id: id, isPlace: true} }

func constant(id int, val api.Val) operand { return operand{mode: isValue, id: id, val: val} }

func nothing() operand { return operand{mode: isNothing, id: noType} }

func (x operand) isFree() bool { return x.mode == isValue && x.id == noType && !x.isNil }

func (x operand) isConst() bool { return x.val.Sort != api.SortNone }

func (x operand) mayBeSet() bool { return x.isPlace || x.isElement }

// settled tells why a rule that hangs on operands can't ask anything.
func settled(all ...operand) error {
	var err error
	for _, x := range all {
		switch x.mode {
		case isFaulty:
			return errWithin
		case isUntyped:
			err = errUntyped
		}
	}
	return err
}

// defaultOf is the type that a free constant of a sort takes where none is asked for.
func defaultOf(s api.Sort) int {
	switch s {
	case api.SortBool:
		return boolType
	case api.SortInt:
		return intType
	case api.SortText:
		return textType
	}
	return noType
}

// typeOf is a value's type: of a free one its default.
func (x operand) typeOf() int {
	if x.isFree() {
		return defaultOf(x.val.Sort)
	}
	return x.id
}

// reader looks at the nodes of a file.
type reader struct {
	*checker
	*sheet
	count   int64 // what iota is
	again   bool  // an expression is read anew: nothing is told, or kept, of it
	results []int // those of the function around
}

// sortOf is the sort of the values of a type; none, if it is neither bool, int nor string beneath.
func (r reader) sortOf(id int) api.Sort {
	switch r.t.Under(id) {
	case boolType:
		return api.SortBool
	case intType:
		return api.SortInt
	case textType:
		return api.SortText
	}
	return api.SortNone
}

// is tells whether a value is of a sort, by what lies beneath its type or by itself.
func (r reader) is(x operand, s api.Sort) bool {
	if x.isFree() {
		return x.val.Sort == s
	}
	return r.sortOf(x.id) == s
}

// form is the kind of node of what lies beneath a value's type; None, if it has no type.
func (r reader) form(x operand) api.NodeKind { return r.t.Form(x.id) }

// one asks that operands are one value each: ErrValue at the first that is not.
func (r reader) one(nodes []int, all ...operand) error {
	for i, x := range all {
		if x.mode != isValue {
			return r.refuse(api.ErrValue, nodes[i])
		}
	}
	return nil
}

// fits tells whether a value fits a type.
func (r reader) fits(x operand, to int) bool {
	isFace := r.t.Form(to) == api.NodeInterface
	switch {
	case x.isNil:
		return isFace || mayBeNil(r.t.Form(to))
	case !x.isFree():
		return r.isAssignable(x.id, to)
	case isFace:
		return r.satisfies(x.typeOf(), to)
	}
	return r.sortOf(to) == x.val.Sort
}

// question is one that is asked of a table about two types, and may be asked again and again.
type question struct {
	isAssign bool
	id, to   int
}

func (c *checker) isAssignable(id, to int) bool {
	return c.answered(question{true, id, to}, c.t.Assignable)
}

func (c *checker) satisfies(id, to int) bool {
	return c.answered(question{false, id, to}, c.t.Satisfies)
}

// answered is what was answered, or is now.
func (c *checker) answered(q question, ask func(id, to int) bool) bool {
	if c.answers[q] == 0 {
		c.answers[q] = no
		if ask(q.id, q.to) {
			c.answers[q] = yes
		}
	}
	return c.answers[q] == yes
}

// Answers to questions.
const (
	yes = 1 + iota
	no
)

// mayBeNil tells whether nil is a value of types of a form that are no interface types.
func mayBeNil(form api.NodeKind) bool {
	switch form {
	case api.NodeStar, api.NodeSliceOf, api.NodeMapOf, api.NodeFuncOf:
		return true
	}
	return false
}

// give asks that a value fits a type, which a free one or nil takes: else the fault stands at it.
func (r reader) give(n int, x operand, to int, why api.Errno) error {
	if !r.fits(x, to) {
		return r.refuse(why, n)
	}
	if x.isNil || x.isFree() && r.t.Form(to) != api.NodeInterface {
		r.take(n, to)
	}
	return nil
}

// take gives an expression that is free or nil a type, and what stands in its ( ).
func (r reader) take(n, id int) {
	for !r.again {
		f := r.known[r.spot(n)]
		f.id = id
		r.known[r.spot(n)] = f
		if r.kind(n) != api.NodeParen {
			return
		}
		n = r.kids(n)[0]
	}
}

// keep notes what is known of an expression.
func (r reader) keep(n int, x operand) {
	if r.again || x.mode != isValue && x.mode != isSeveral {
		return
	}
	r.known[r.spot(n)] = fact{x.typeOf(), x.list, x.val}
}

// gaveUp is what an expression is whose rule met an error, which is told if it is a fault.
func (r reader) gaveUp(err error) operand {
	var f *refusal
	if errors.As(err, &f) && !r.again {
		r.tell(r.sheet, f)
	}
	if errors.Is(err, errUntyped) {
		return operand{mode: isUntyped}
	}
	return operand{mode: isFaulty}
}

// settle is gaveUp for rules that answer nothing.
func (r reader) settle(err error) bool {
	if err != nil {
		r.gaveUp(err)
	}
	return err == nil
}
