package check

import "moniker/api"

// receiver notes what the Name of a Recv is.
func (r reader) receiver(n int) {
	if r.kind(n) != api.NodeRecv {
		return
	}
	if kids := r.kids(n); r.kind(kids[0]) == api.NodeName {
		r.make(kids[0], placeOf(r.t.Written(r.number, kids[1])))
	}
}

// function looks at the Block of a Func or FuncLit.
func (r reader) function(sig, block int) {
	for _, param := range r.kids(r.kids(sig)[0]) {
		kids := r.kids(param)
		r.newOnes(r.kids(kids[0]), r.t.Written(r.number, kids[1]))
	}
	_, r.results = r.signature(r.sheet, sig)
	r.statement(block)
}

// statement looks at a statement and all within it.
func (r reader) statement(n int) {
	kids := r.kids(n)
	switch r.kind(n) {
	case api.NodeBlock:
		for _, k := range kids {
			r.statement(k)
		}
	case api.NodeConst, api.NodeVar:
		r.specs(n)
	case api.NodeIf:
		r.statement(kids[0])
		r.condition(kids[1])
		r.statement(kids[2])
		r.statement(kids[3])
	case api.NodeFor:
		r.statement(kids[0])
		r.condition(kids[1])
		r.statement(kids[2])
		r.statement(kids[3])
	case api.NodeRange:
		r.ranging(kids[0], kids[1])
		r.statement(kids[2])
	case api.NodeSwitch:
		r.statement(kids[0])
		r.choose(kids[1], kids[2])
	case api.NodeMatch:
		r.statement(kids[0])
		r.match(kids[1], kids[2], kids[3])
	case api.NodeLabel:
		r.statement(kids[1])
	default:
		r.simple(n)
	}
}

// simple looks at a statement in which there is no other.
func (r reader) simple(n int) {
	kids := r.kids(n)
	switch r.kind(n) {
	case api.NodeReturn:
		list := r.kids(kids[0])
		r.settle(r.answer(n, list, r.exprs(list)))
	case api.NodeFall:
		r.settle(r.refuse(api.ErrUse, n))
	case api.NodeDo:
		x := r.expr(kids[0])
		if x.mode != isFaulty && (r.kind(kids[0]) != api.NodeCall || r.isIdle(kids[0])) {
			r.settle(r.refuse(api.ErrUse, n))
		}
	case api.NodeStep:
		r.settle(r.step(kids, r.expr(kids[0])))
	case api.NodeDefine:
		r.assign(r.defined(r.kids(kids[0])), r.kids(kids[1]))
	case api.NodeAssign:
		mark := r.markBehind(kids[0])
		if op := r.tokens[mark].Kind; op != api.TokIs {
			r.settle(r.change(r.kids(kids[0]), r.kids(kids[1]), op-api.TokAddIs+api.TokAdd, mark))
			return
		}
		var targets []target
		for _, k := range r.kids(kids[0]) {
			targets = append(targets, r.left(k))
		}
		r.assign(targets, r.kids(kids[1]))
	}
}

// change is an Assign with another operator than =.
func (r reader) change(left, right []int, op api.Kind, mark int) error {
	a, b := r.exprs(left), r.exprs(right)
	if err := settled(append(a, b...)...); err != nil {
		return err
	}
	if len(left) != 1 || len(right) != 1 {
		return r.refuse(api.ErrCount, left[0])
	}
	if err := r.isPlace(left[0], a[0]); err != nil {
		return err
	}
	_, err := pair{r, []int{left[0], right[0]}, a[0], b[0], op, mark}.joined()
	return err
}

func (r reader) step(kids []int, x operand) error {
	if err := r.isPlace(kids[0], x); err != nil {
		return err
	}
	if !r.is(x, api.SortInt) {
		return r.refuse(api.ErrOperand, kids[0])
	}
	return nil
}

// answer is a Return.
func (r reader) answer(n int, nodes []int, all []operand) error {
	if err := settled(all...); err != nil {
		return err
	}
	if len(all) == 1 && r.isCallOfSeveral(nodes[0], all[0]) && len(all[0].list) == len(r.results) {
		return r.areAssignable(nodes[0], all[0].list, r.results)
	}
	if err := r.one(nodes, all...); err != nil {
		return err
	}
	if len(all) != len(r.results) {
		return r.refuse(api.ErrCount, n)
	}
	for i, x := range all {
		if err := r.give(nodes[i], x, r.results[i], api.ErrAssign); err != nil {
			return err
		}
	}
	return nil
}

// condition is that of an If or For; it may be None.
func (r reader) condition(n int) {
	if r.kind(n) == api.NodeNone {
		return
	}
	x := r.expr(n)
	if r.settle(settled(x)) && r.settle(r.one([]int{n}, x)) && !r.is(x, api.SortBool) {
		r.settle(r.refuse(api.ErrOperand, n))
	}
}

// ranging is the header of a Range.
func (r reader) ranging(left, n int) {
	x := r.expr(n)
	gets, err := r.rounds(n, x)
	isOver := r.settle(err)
	list := r.kids(left)
	if len(list) == 0 {
		return
	}
	isNew := r.tokens[r.markBehind(left)].Kind == api.TokNew
	var targets []target
	if isNew {
		targets = r.newOnes(list, noType)
	} else {
		for _, k := range list {
			targets = append(targets, r.left(k))
		}
	}
	if !isOver {
		return
	}
	if len(targets) > len(gets) {
		for _, t := range targets {
			if !t.isRight {
				return
			}
		}
		r.settle(r.refuse(api.ErrCount, list[0]))
		return
	}
	for i, t := range targets {
		if t.isRight {
			r.settle(r.suits(t, t.node, valueOf(gets[i])))
		}
	}
}

// rounds are the types of what a Range gives in each round.
func (r reader) rounds(n int, x operand) ([]int, error) {
	if err := settled(x); err != nil {
		return nil, err
	}
	if err := r.one([]int{n}, x); err != nil {
		return nil, err
	}
	switch r.form(x) {
	case api.NodeSliceOf:
		return []int{intType, r.part(x.id, 0)}, nil
	case api.NodeMapOf:
		return []int{r.part(x.id, 0), r.part(x.id, 1)}, nil
	}
	switch {
	case r.is(x, api.SortText):
		return []int{intType, intType}, nil
	case r.is(x, api.SortInt):
		return []int{x.typeOf()}, nil
	}
	return nil, r.refuse(api.ErrOperand, n)
}
