package eval

import (
	"moniker/api"
)

// star is a Star of a value that has taken one.
func (c *coder) star(n int) expr {
	find := c.pointed(n)
	return func(f *frame) value { return find(f).read() }
}

// index is an Index that has taken one.
func (c *coder) index(n int) expr {
	kids := c.kids(n)
	switch c.typeOf(kids[0]).form {
	case api.NodeSliceOf:
		find := c.element(n)
		return func(f *frame) value { return find(f).read() }
	case api.NodeMapOf:
		find := c.entry(n)
		return func(f *frame) value { return find(f).read() }
	}
	x, i, at := c.expr(kids[0]), c.expr(kids[1]), c.at(n)
	return func(f *frame) value {
		s, _ := x(f).(text)
		k, _ := i(f).(number)
		if k < 0 || int(k) >= len(s) {
			fail(api.EndIndex, at)
		}
		return number(s[k])
	}
}

// indexFound is an Index of a map with comma ok.
func (c *coder) indexFound(n int) exprs {
	find := c.entry(n)
	return func(f *frame) []value {
		e := find(f)
		_, ok := e.in.find(e.key)
		return []value{e.read(), truth(ok)}
	}
}

// slice is a Slice that has taken one.
func (c *coder) slice(n int) expr {
	kids := c.kids(n)
	x, low, high, at := c.expr(kids[0]), c.limit(kids[1]), c.limit(kids[2]), c.at(n)
	return func(f *frame) value {
		switch v := x(f).(type) {
		case slice:
			from := low(f, 0)
			return v.cut(from, high(f, v.length), at)
		case text:
			from := low(f, 0)
			to := high(f, len(v))
			checkCut(from, to, len(v), at)
			return v[from:to]
		}
		return nil
	}
}

// limit is a bound of a Slice; one that is not written is as it is handed in.
func (c *coder) limit(n int) func(f *frame, unwritten int) int {
	if c.kind(n) == api.NodeNone {
		return func(_ *frame, unwritten int) int { return unwritten }
	}
	x := c.expr(n)
	return func(f *frame, _ int) int {
		v, _ := x(f).(number)
		return int(v)
	}
}

// assert is an Assert that has taken one.
func (c *coder) assert(n int) expr {
	find, at := c.assertFound(n), c.at(n)
	return func(f *frame) value {
		list := find(f)
		if list[1] != truth(true) {
			fail(api.EndAssert, at)
		}
		return list[0]
	}
}

// assertFound is an Assert with comma ok.
func (c *coder) assertFound(n int) exprs {
	kids := c.kids(n)
	x, to := c.expr(kids[0]), c.written(kids[1])
	return func(f *frame) []value {
		v, _ := x(f).(face)
		if !to.holds(v) {
			return []value{to.zero, truth(false)}
		}
		return []value{to.from(v), truth(true)}
	}
}

// from is an interface value as one of a type that holds it.
func (k *kind) from(v face) value {
	if k.isFace() {
		return v
	}
	return v.held
}

// composite is a Composite that has taken one.
func (c *coder) composite(n int) expr {
	kids := c.kids(n)
	of, list := c.written(kids[0]), c.kids(kids[1])
	switch of.form {
	case api.NodeStruct:
		return c.structOf(of, list)
	case api.NodeSliceOf:
		return c.sliceOf(of, list)
	}
	return c.mapOf(of, list)
}

func (c *coder) structOf(of *kind, list []int) expr {
	if len(list) == 0 {
		return func(*frame) value { return of.zero }
	}
	numbers := make([]int, len(list))
	elements := make([]expr, len(list))
	for i, n := range list {
		numbers[i] = i
		if c.kind(n) == api.NodePair {
			kids := c.kids(n)
			n, numbers[i] = kids[1], c.fieldNumber(c.member(kids[0]))
		}
		elements[i] = c.into(n, of.part(numbers[i]))
	}
	return func(f *frame) value {
		fields := (&record{of: of}).all()
		for i, x := range elements {
			fields[numbers[i]] = x(f)
		}
		return &record{of, fields}
	}
}

// item is an element of a slice's or map's Composite; without a key of its own its key is nil.
type item struct {
	key, value expr
	number     int // of a slice's
}

// items are the elements of a slice's or map's Composite.
func (c *coder) items(of *kind, list []int) []item {
	var out []item
	next := 0
	for _, n := range list {
		var x item
		if c.kind(n) == api.NodePair {
			kids := c.kids(n)
			x.key, n = c.expr(kids[0]), kids[1]
			if val, ok := c.checks.Const(c.file, kids[0]); ok {
				next = int(val.Int)
			}
		}
		x.value, x.number = c.into(n, of), next
		next++
		out = append(out, x)
	}
	return out
}

func (c *coder) sliceOf(of *kind, list []int) expr {
	items, length := c.items(of.part(0), list), 0
	for _, x := range items {
		length = max(length, x.number+1)
	}
	return func(f *frame) value {
		out := slice{newArray(of.part(0)), 0, length, length}
		for _, x := range items {
			if x.key != nil {
				x.key(f)
			}
			out.in.assign(x.number, x.value(f))
		}
		return out
	}
}

func (c *coder) mapOf(of *kind, list []int) expr {
	items := c.items(of.part(1), list)
	return func(f *frame) value {
		out := newTable()
		for _, x := range items {
			key := plain(x.key(f))
			out.store(key, x.value(f))
		}
		return mapping{out}
	}
}
