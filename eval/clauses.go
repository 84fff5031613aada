package eval

import (
	"moniker/api"
)

// clause is one of a Switch or Match: the expressions or types that it asks for, and its Block.
type clause struct {
	exprs []expr
	types []*kind // nil: the Name nil
	do    stmt
}

// noClause is the number of a Default that is not there.
const noClause = -1

// clauses are those of a list, and the number of the Default.
func (c *coder) clauses(list int, read func(n int, out *clause)) ([]clause, int) {
	var out []clause
	other := noClause
	for i, n := range c.kids(list) {
		kids := c.kids(n)
		x := clause{do: c.block(kids[len(kids)-1])}
		if c.kind(n) == api.NodeDefault {
			other = i
		} else {
			for _, k := range c.kids(kids[0]) {
				read(k, &x)
			}
		}
		out = append(out, x)
	}
	return out, other
}

// choose is a Switch.
func (c *coder) choose(n int) stmt {
	kids := c.kids(n)
	first := c.stmt(kids[0])
	tag := func(*frame) value { return truth(true) }
	if c.kind(kids[1]) != api.NodeNone {
		tag = c.expr(kids[1])
	}
	list, other := c.clauses(kids[2], func(k int, out *clause) { out.exprs = append(out.exprs, c.expr(k)) })
	return func(f *frame) leaving {
		first(f)
		v := tag(f)
		fit := fitting(list, other, func(x clause) bool {
			for _, e := range x.exprs {
				if same(v, e(f)) {
					return true
				}
			}
			return false
		})
		return follow(f, list, fit, n)
	}
}

// fitting is the number of the first clause that fits, else of the Default.
func fitting(list []clause, other int, fits func(x clause) bool) int {
	for i, x := range list {
		if fits(x) {
			return i
		}
	}
	return other
}

// follow does the Block of a clause, and those behind it as long as one falls through.
func follow(f *frame, list []clause, from, n int) leaving {
	l := leaving{}
	for i := from; i >= 0 && i < len(list); i++ {
		if l = list[i].do(f); l.how != falls {
			break
		}
	}
	if l == (leaving{breaks, n}) {
		return leaving{}
	}
	return l
}

// match is a Match.
func (c *coder) match(n int) stmt {
	kids := c.kids(n)
	first, slot, x := c.stmt(kids[0]), c.slotOf(kids[1]), c.expr(kids[2])
	list, other := c.clauses(kids[3], func(k int, out *clause) { out.types = append(out.types, c.written(k)) })
	return func(f *frame) leaving {
		first(f)
		v, _ := x(f).(face)
		fit := fitting(list, other, func(x clause) bool {
			for _, k := range x.types {
				if k == nil && v.isNil() || k != nil && k.holds(v) {
					return true
				}
			}
			return false
		})
		if fit == noClause {
			return leaving{}
		}
		f.define(slot, list[fit].named(v))
		return follow(f, list, fit, n)
	}
}

// named is what the Name of a Match is in a clause.
func (x clause) named(v face) value {
	if len(x.types) == 1 && x.types[0] != nil {
		return x.types[0].from(v)
	}
	return v
}
