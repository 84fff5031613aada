package eval

import (
	"moniker/api"
)

// slice is a stretch of an array.
type slice struct {
	in                     *array
	from, length, capacity int
}

// array has elements without end; those that were never assigned to are zero values, and take no room.
type array struct {
	of    *kind // the elements'
	leafs map[int]*leaf
	near  int   // the number of the leaf that was asked for last
	last  *leaf // that leaf
}

const leafSize = 64

// leaf are the elements from a multiple of its size on: none where there is a zero value, a cell where an element is one.
type leaf [leafSize]value

func newArray(of *kind) *array { return &array{of: of, leafs: map[int]*leaf{}} }

// leaf is the one of an element; nil: there is none yet.
func (a *array) leaf(at int) *leaf {
	if number := at / leafSize; a.last == nil || a.near != number {
		a.near, a.last = number, a.leafs[number]
	}
	return a.last
}

// raw is what is known of an element; nil: nothing, it is a zero value.
func (a *array) raw(at int) value {
	if l := a.leaf(at); l != nil {
		return l[at%leafSize]
	}
	return nil
}

func (a *array) read(at int) value {
	switch x := a.raw(at).(type) {
	case nil:
		return a.of.zero
	case *cell:
		return x.read()
	default:
		return x
	}
}

// set puts something in the place of an element.
func (a *array) set(at int, v value) {
	if a.leaf(at) == nil {
		a.last = &leaf{}
		a.leafs[a.near] = a.last
	}
	a.last[at%leafSize] = v
}

// assign assigns to an element; nil is a zero value.
func (a *array) assign(at int, v value) {
	old := a.raw(at)
	c, ok := old.(*cell)
	switch {
	case ok && v == nil:
		c.assign(a.of.zero)
	case ok:
		c.assign(v)
	case old != nil || v != nil:
		a.set(at, v)
	}
}

// element is the place of an element of an array.
type element struct {
	in *array
	at int
}

func (e element) read() value    { return e.in.read(e.at) }
func (e element) assign(v value) { e.in.assign(e.at, v) }

// open is the element's cell.
func (e element) open() *cell {
	c, ok := e.in.raw(e.at).(*cell)
	if !ok {
		c = &cell{held: e.read()}
		e.in.set(e.at, c)
	}
	return c
}

// look is a cell to read the element from.
func (e element) look() *cell {
	if c, ok := e.in.raw(e.at).(*cell); ok {
		return c
	}
	return &cell{held: e.read()}
}

// at is the element of a number.
func (s slice) at(i number, at api.Place) element {
	if i < 0 || int(i) >= s.length {
		fail(api.EndIndex, at)
	}
	return element{s.in, s.from + int(i)}
}

// values are what the elements have, nil for zero values.
func (s slice) values() []value {
	out := make([]value, s.length)
	for i := range out {
		v := s.in.raw(s.from + i)
		if c, ok := v.(*cell); ok {
			v = c.read()
		}
		out[i] = v
	}
	return out
}

// write assigns to elements from one on, as far as the array goes.
func (s slice) write(from int, list []value) {
	for i, v := range list {
		s.in.assign(s.from+from+i, v)
	}
}

// leastRoom is the capacity of the least array that append makes.
const leastRoom = 4

// append is the slice with more values behind its own; of is the type of its elements.
func (s slice) append(list []value, of *kind, at api.Place) slice {
	length := s.length + len(list)
	if length > api.MaxThing {
		fail(api.EndLarge, at)
	}
	if len(list) == 0 {
		return s
	}
	out := s
	if length > s.capacity {
		out = slice{in: newArray(of), capacity: max(leastRoom, 2*s.capacity, length)}
		out.write(0, s.values())
	}
	out.length = length
	out.write(s.length, list)
	return out
}

// cut is a part of the slice.
func (s slice) cut(low, high int, at api.Place) slice {
	checkCut(low, high, s.capacity, at)
	return slice{s.in, s.from + low, high - low, s.capacity - low}
}

// checkCut asks whether a part of so much can be cut out, and is not too large.
func checkCut(low, high, most int, at api.Place) {
	if low < 0 || low > high || high > most {
		fail(api.EndIndex, at)
	}
	if high-low > api.MaxThing {
		fail(api.EndLarge, at)
	}
}
