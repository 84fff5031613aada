package parser

import "moniker/api"

func (r *reader) branch() *part {
	first := r.take()
	start, cond := r.ifHeader()
	then, other := r.block(), r.otherwise()
	return r.node(api.NodeIf, first, start, cond, then, other)
}

func (r *reader) ifHeader() (start, cond *part) {
	r.bare = true
	start = r.none()
	if !r.atSemicolon() {
		s := r.simple(inBlock)
		if s.kind == api.NodeDo && r.kind() == api.TokBegin {
			return start, s.kids[0]
		}
		start = s
	}
	r.semicolon()
	return start, r.expression()
}

func (r *reader) otherwise() *part {
	if r.kind() != api.TokElse {
		return r.none()
	}
	r.take()
	if r.kind() == api.TokIf {
		return r.branch()
	}
	return r.block()
}

// choice reads a Switch or a Match.
func (r *reader) choice() *part {
	first := r.take()
	r.bare = true
	r.guard = r.next
	start := r.none()
	if r.kind() == api.TokBegin {
		return r.choose(first, start, r.none())
	}
	if !r.atSemicolon() {
		s := r.simple(inSwitch)
		switch {
		case s.kind == api.NodeMatch && len(s.kids) == 2:
			return r.match(first, start, s.kids[0], s.kids[1])
		case s.kind == api.NodeMatch:
			return r.match(first, start, start, s.kids[0])
		case s.kind == api.NodeDo && r.kind() == api.TokBegin:
			return r.choose(first, start, s.kids[0])
		}
		start = s
	}
	r.semicolon()
	return r.choiceBehind(first, start)
}

// choiceBehind goes on behind the ; of the header. There a := has a Guard alone behind it.
func (r *reader) choiceBehind(first int, start *part) *part {
	name := r.none()
	if r.kind() == api.TokBegin {
		return r.choose(first, start, name)
	}
	r.guard = r.next
	x := r.expression()
	if x.kind == api.NodeName && r.kind() == api.TokNew {
		r.take()
		r.guard = r.next
		name, x = x, r.primary()
		if !r.atGuard() {
			r.fail()
		}
	}
	if r.atGuard() {
		return r.match(first, start, name, x)
	}
	return r.choose(first, start, x)
}

func (r *reader) choose(first int, start, tag *part) *part {
	clauses := r.clauses(r.expression)
	return r.node(api.NodeSwitch, first, start, tag, clauses)
}

// match goes on at a Guard's . ( type ) .
func (r *reader) match(first int, start, name, x *part) *part {
	r.take()
	r.take()
	r.take()
	r.expect(api.TokClose)
	clauses := r.clauses(r.typ)
	return r.node(api.NodeMatch, first, start, name, x, clauses)
}

// clauses reads { } with clauses; one is what their cases list.
func (r *reader) clauses(one func() *part) *part {
	r.expect(api.TokBegin)
	r.bare = false
	out := r.empty(api.NodeList)
	for r.kind() != api.TokEnd {
		out.kids = append(out.kids, r.clause(one))
		out.end = r.behind()
	}
	r.take()
	return out
}

func (r *reader) clause(one func() *part) *part {
	first := r.place()
	switch r.kind() {
	case api.TokCase:
		r.take()
		of := r.list(one)
		r.expect(api.TokColon)
		return r.node(api.NodeCase, first, of, r.clauseBlock())
	case api.TokDefault:
		r.take()
		r.expect(api.TokColon)
		return r.node(api.NodeDefault, first, r.clauseBlock())
	}
	return r.fail()
}

// clauseBlock reads statements up to the next clause; ahead of that, other than of a } , the last ; must stand.
func (r *reader) clauseBlock() *part {
	out := r.empty(api.NodeBlock)
	for r.kind() != api.TokEnd && r.kind() != api.TokCase && r.kind() != api.TokDefault {
		out.kids = append(out.kids, r.statement())
		if r.kind() != api.TokEnd {
			r.semicolon()
		}
		out.end = r.behind()
	}
	return out
}

// loop reads a For or a Range.
func (r *reader) loop() *part {
	first := r.take()
	r.bare = true
	start := r.none()
	switch {
	case r.kind() == api.TokBegin:
		return r.round(first, start, r.none(), r.none())
	case r.kind() == api.TokRange:
		return r.over(first, r.empty(api.NodeList))
	case !r.atSemicolon():
		s := r.simple(inFor)
		switch {
		case s.kind == api.NodeRange:
			return r.over(first, s.kids[0])
		case s.kind == api.NodeDo && r.kind() == api.TokBegin:
			return r.round(first, start, s.kids[0], r.none())
		}
		start = s
	}
	r.semicolon()
	cond, post := r.loopBehind()
	return r.round(first, start, cond, post)
}

// loopBehind goes on behind the first ; of a For's header.
func (r *reader) loopBehind() (cond, post *part) {
	cond = r.none()
	if !r.atSemicolon() {
		cond = r.expression()
	}
	r.semicolon()
	post = r.none()
	if r.kind() != api.TokBegin {
		post = r.simple(inPost)
	}
	return cond, post
}

func (r *reader) round(first int, start, cond, post *part) *part {
	body := r.block()
	return r.node(api.NodeFor, first, start, cond, post, body)
}

// over goes on at the range of a Range.
func (r *reader) over(first int, left *part) *part {
	r.take()
	x := r.expression()
	body := r.block()
	return r.node(api.NodeRange, first, left, x, body)
}
