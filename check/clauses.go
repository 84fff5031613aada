package check

import "moniker/api"

// choice is a Switch whose cases are looked at: what they are compared with, and the constants that they had.
type choice struct {
	reader
	hasTag, isRight bool
	tag             operand
	met             map[api.Val]int
}

// choose is a Switch.
func (r reader) choose(tag, clauses int) {
	c := choice{reader: r, hasTag: r.kind(tag) != api.NodeNone, isRight: true, met: map[api.Val]int{}}
	if c.hasTag {
		c.tag = r.expr(tag)
		c.isRight = r.settle(r.isTag(tag, c.tag))
		c.tag.id = c.tag.typeOf()
	}
	list := r.kids(clauses)
	r.defaults(list)
	for i, n := range list {
		kids := r.kids(n)
		if r.kind(n) == api.NodeCase {
			for _, e := range r.kids(kids[0]) {
				r.settle(c.compare(e, r.expr(e)))
			}
		}
		stmts := r.kids(kids[len(kids)-1])
		if last := len(stmts) - 1; i < len(list)-1 && last >= 0 && r.kind(stmts[last]) == api.NodeFall {
			stmts = stmts[:last]
		}
		for _, s := range stmts {
			r.statement(s)
		}
	}
}

// defaults tells each Default but the first one.
func (r reader) defaults(clauses []int) {
	count := 0
	for _, n := range clauses {
		if r.kind(n) != api.NodeDefault {
			continue
		}
		if count++; count > 1 {
			r.settle(r.refuse(api.ErrTwice, n))
		}
	}
}

func (r reader) isTag(n int, x operand) error {
	if err := settled(x); err != nil {
		return err
	}
	if err := r.one([]int{n}, x); err != nil {
		return err
	}
	if x.isNil {
		return r.refuse(api.ErrNil, n)
	}
	return nil
}

// compare looks at an expression of a Case: all its faults stand at it.
func (c choice) compare(n int, x operand) error {
	if err := settled(x); err != nil {
		return err
	}
	if err := c.one([]int{n}, x); err != nil || !c.isRight {
		return err
	}
	if c.hasTag {
		if _, err := (pair{c.reader, []int{n, n}, c.tag, x, api.TokEq, c.first(n)}).compare(); err != nil {
			return err
		}
	} else if !c.is(x, api.SortBool) {
		return c.refuse(api.ErrOperand, n)
	}
	if !x.isConst() {
		return nil
	}
	if c.met[x.val]++; c.met[x.val] > 1 {
		return c.refuse(api.ErrTwice, n)
	}
	return nil
}

// match is a Match.
func (r reader) match(name, n, clauses int) {
	x := r.expr(n)
	face := noType
	if r.settle(r.isFace(n, x)) {
		face = x.id
	}
	list := r.kids(clauses)
	r.defaults(list)
	met := map[int]int{} // by type; nil has none
	for _, clause := range list {
		kids := r.kids(clause)
		block := kids[len(kids)-1]
		id := face
		if r.kind(clause) == api.NodeCase {
			cases := r.kids(kids[0])
			for _, e := range cases {
				r.settle(r.caseType(e, face, met))
			}
			if to := r.t.Written(r.number, cases[0]); len(cases) == 1 && to >= 0 {
				id = to
			}
		}
		r.nameIn(name, block, id)
		r.statement(block)
	}
}

// nameIn notes what a Match's Name is in a clause.
func (r reader) nameIn(name, block, id int) {
	if r.kind(name) != api.NodeName || id < 0 {
		return
	}
	if d := r.s.Makes(r.at(name)); d >= 0 {
		r.clauses[d] = append(r.clauses[d], clause{r.first(block), r.end(block), id})
	}
}

func (r reader) isFace(n int, x operand) error {
	if err := settled(x); err != nil {
		return err
	}
	if err := r.one([]int{n}, x); err != nil {
		return err
	}
	if r.form(x) != api.NodeInterface {
		return r.refuse(api.ErrOperand, n)
	}
	return nil
}

// caseType looks at a type of a Case of a Match, or at nil, which is none.
func (r reader) caseType(n, face int, met map[int]int) error {
	id := r.t.Written(r.number, n)
	if id >= 0 && face >= 0 {
		if err := r.mayMeet(n, id, face); err != nil {
			return err
		}
	}
	if met[id]++; met[id] > 1 {
		return r.refuse(api.ErrTwice, n)
	}
	return nil
}
