package check

import (
	"moniker/api"
	"moniker/scope"
)

// source is what a ConstSpec with expressions has, which later ones take over.
type source struct {
	exprs   []int
	id      int    // the written type; noType: none
	count   int64  // its iota
	hasIota []bool // by an expression: it is another one where it is read anew
	isRead  bool
	err     error // why nothing can be asked of all expressions together
}

// constSpec is a ConstSpec, with what it has or takes over; nil: there is nothing.
type constSpec struct {
	*source
	names []int
	count int64 // its iota
	isOwn bool
}

// varSpec is a VarSpec.
type varSpec struct {
	names, exprs []int
	id           int
}

// owner is where a package-level constant or variable gets its value: by which Name of which spec; one of the two is nil.
type owner struct {
	in      *sheet
	number  int
	of      *constSpec
	on      *varSpec
	isAsked bool
}

// own notes whose values the Names of a package-level spec get.
func (c *checker) own(h *sheet, names []int, of *constSpec, on *varSpec) {
	for i, n := range names {
		if d := c.s.Makes(h.at(n)); d >= 0 {
			c.owners[d] = &owner{h, i, of, on, false}
		}
	}
}

// asked is what a constant, variable or function is; of one at package level its value is looked at now, if it was not yet.
func (c *checker) asked(decl int) operand {
	if o := c.owners[decl]; o != nil && !o.isAsked {
		o.isAsked = true
		r := reader{checker: c, sheet: o.in}
		if o.of != nil {
			r.constant(o.of, o.number)
		} else {
			r.variable(o.on, o.number)
		}
	}
	return c.things[decl]
}

// specs looks at the specs of a Const or Var.
func (r reader) specs(n int) {
	if r.kind(n) == api.NodeConst {
		for _, x := range r.constSpecs(n) {
			r.constSpec(x)
		}
		return
	}
	for _, spec := range r.kids(n) {
		x := r.varSpec(spec)
		r.assign(r.newOnes(x.names, x.id), x.exprs)
	}
}

func (r reader) constSpecs(group int) []*constSpec {
	var out []*constSpec
	var last *source
	for i, n := range r.kids(group) {
		kids := r.kids(n)
		x := &constSpec{names: r.kids(kids[0]), count: int64(i)}
		if exprs := r.kids(kids[2]); len(exprs) > 0 {
			x.isOwn = true
			last = &source{exprs: exprs, id: r.t.Written(r.number, kids[1]), count: x.count}
			for _, e := range exprs {
				last.hasIota = append(last.hasIota, r.hasIota(e))
			}
		}
		x.source = last
		out = append(out, x)
	}
	return out
}

func (r reader) varSpec(n int) *varSpec {
	kids := r.kids(n)
	return &varSpec{r.kids(kids[0]), r.kids(kids[2]), r.t.Written(r.number, kids[1])}
}

// once looks at an expression of a spec, which several may ask for.
func (r reader) once(n int) operand {
	x, ok := r.values[r.spot(n)]
	if !ok {
		r.values[r.spot(n)] = operand{mode: isUntyped} // one that needs itself has no type
		x = r.expr(n)
		r.values[r.spot(n)] = x
	}
	return x
}

// constSpec looks at a ConstSpec.
func (r reader) constSpec(x *constSpec) {
	if x.source == nil {
		r.settle(r.refuse(api.ErrConst, x.names[0]))
		return
	}
	r.read(x.source)
	if len(x.exprs) == len(x.names) {
		for i := range x.names {
			r.constant(x, i)
		}
	} else if x.err == nil {
		r.settle(r.refuse(api.ErrCount, x.names[0]))
	}
}

// read looks at the expressions of a ConstSpec, as they are where they are written.
func (r reader) read(x *source) {
	if x.isRead {
		return
	}
	x.isRead = true
	r.count = x.count
	var all []operand
	for _, e := range x.exprs {
		all = append(all, r.once(e))
	}
	x.err = settled(all...)
}

// constant finds what a Name of a ConstSpec is.
func (r reader) constant(x *constSpec, number int) {
	if x.source == nil || len(x.exprs) != len(x.names) {
		return
	}
	e := x.exprs[number]
	r.count = x.source.count
	val := r.once(e)
	if err := r.isConstant(e, val, x.id); err != nil {
		r.gaveUp(err)
		return
	}
	if !x.isOwn && x.hasIota[number] {
		anew := r
		anew.count, anew.again = x.count, true
		if val = anew.expr(e); val.mode != isValue {
			r.settle(r.refuse(api.ErrConst, x.names[0]))
			return
		}
	}
	if x.id >= 0 {
		val.id = x.id
	}
	r.make(x.names[number], val)
}

func (r reader) hasIota(node int) bool {
	for n := node; n < r.behind(node); n++ {
		if r.kind(n) == api.NodeName && r.s.Bound(r.at(n)) == scope.Universe("iota") {
			return true
		}
	}
	return false
}

// isConstant asks that an expression of a ConstSpec is a constant, of the type that is written.
func (r reader) isConstant(n int, x operand, id int) error {
	if err := settled(x); err != nil {
		return err
	}
	if err := r.one([]int{n}, x); err != nil {
		return err
	}
	if !x.isConst() {
		return r.refuse(api.ErrConst, n)
	}
	if id < 0 {
		return nil
	}
	if r.sortOf(id) == api.SortNone {
		return r.refuse(api.ErrAssign, n)
	}
	return r.give(n, x, id, api.ErrAssign)
}

// make notes what the Name that declares a constant or variable is.
func (r reader) make(name int, x operand) {
	if d := r.s.Makes(r.at(name)); d >= 0 {
		r.things[d] = x
		r.known[r.spot(name)] = fact{id: x.typeOf()}
	}
}

// variable finds what a Name of a VarSpec is.
func (r reader) variable(x *varSpec, number int) {
	targets := r.newOnes(x.names, x.id)
	switch {
	case x.id >= 0:
	case len(x.exprs) == len(x.names):
		r.value(targets[number], x.exprs[number])
	default:
		r.assign(targets, x.exprs)
	}
}
