package eval

import (
	"moniker/api"
	"moniker/scope"
)

// native is a Call of a universe function; nil: what is called is none.
func (c *coder) native(n, called int, args []int) exprs {
	if c.kind(called) != api.NodeName {
		return nil
	}
	switch c.bound(called) {
	case scope.Universe("append"):
		return c.appending(n, args)
	case scope.Universe("copy"):
		return c.copying(args)
	case scope.Universe("delete"):
		return c.deleting(args)
	case scope.Universe("len"):
		return c.measuring(args[0])
	case scope.Universe("make"):
		return c.making(n, args)
	case scope.Universe("new"):
		zero := c.written(args[0]).zero
		return func(*frame) []value { return []value{pointer{&cell{held: zero}}} }
	case scope.Universe("panic"):
		x, at := c.expr(args[0]), c.at(n)
		return func(f *frame) []value {
			x(f)
			fail(api.EndPanic, at)
			return nil
		}
	case scope.Universe("print"):
		return c.printing(args)
	}
	return nil
}

// plainly are the values of expressions that are put into no type.
func (c *coder) plainly(args []int) exprs { return c.values(args, make([]*kind, len(args))) }

func (c *coder) appending(n int, args []int) exprs {
	of, at := c.typeOf(args[0]).part(0), c.at(n)
	if c.markBehind(args[len(args)-1]) == api.TokDots {
		all := c.plainly(args)
		return func(f *frame) []value {
			list := all(f)
			s, _ := list[0].(slice)
			more, _ := list[1].(slice)
			return []value{s.append(more.values(), of, at)}
		}
	}
	to := make([]*kind, len(args))
	for i := range to[1:] {
		to[i+1] = of
	}
	all := c.values(args, to)
	return func(f *frame) []value {
		list := all(f)
		s, _ := list[0].(slice)
		return []value{s.append(list[1:], of, at)}
	}
}

func (c *coder) copying(args []int) exprs {
	all := c.plainly(args)
	return func(f *frame) []value {
		list := all(f)
		to, _ := list[0].(slice)
		from, _ := list[1].(slice)
		from.length = min(from.length, to.length)
		to.write(0, from.values())
		return []value{number(from.length)}
	}
}

func (c *coder) deleting(args []int) exprs {
	all := c.plainly(args)
	return func(f *frame) []value {
		list := all(f)
		m, _ := list[0].(mapping)
		m.in.remove(plain(list[1]))
		return nil
	}
}

func (c *coder) measuring(n int) exprs {
	x := c.expr(n)
	return func(f *frame) []value {
		switch v := x(f).(type) {
		case text:
			return []value{number(len(v))}
		case slice:
			return []value{number(v.length)}
		case mapping:
			return []value{number(v.in.length())}
		}
		return nil
	}
}

func (c *coder) making(n int, args []int) exprs {
	of, at := c.written(args[0]), c.at(n)
	if of.form == api.NodeMapOf {
		return func(*frame) []value { return []value{mapping{newTable()}} }
	}
	element, sizes := of.part(0), c.plainly(args[1:])
	return func(f *frame) []value {
		list := sizes(f)
		length, _ := list[0].(number)
		capacity, _ := list[len(list)-1].(number)
		if length < 0 || length > api.MaxThing || capacity < length {
			fail(api.EndIndex, at)
		}
		return []value{slice{newArray(element), 0, int(length), int(capacity)}}
	}
}

func (c *coder) printing(args []int) exprs {
	all := c.plainly(args)
	return func(f *frame) []value {
		list := all(f)
		event := make([]api.Val, len(list))
		for i, v := range list {
			event[i] = plain(v)
		}
		f.trace = append(f.trace, event)
		return nil
	}
}
