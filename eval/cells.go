package eval

import (
	"cmp"
	"slices"

	"moniker/api"
)

// place is what can be assigned to: a cell, an element of a slice's array, an element of a map.
type place interface {
	read() value
	assign(v value)
}

// nowhere is the place of a blank name.
type nowhere struct{}

func (nowhere) read() value  { return nil }
func (nowhere) assign(value) {}

// cell holds a value. Of a struct those fields that are places somewhere are cells of their own, which stay while the struct is assigned to; what all the others have stands in the value.
type cell struct {
	held value
	own  []opened // by rising numbers
}

// opened is a field that is a cell.
type opened struct {
	number int
	cell   *cell
}

// isNil: an array holds a cell in the place of an element that is one; it is none that is compared.
func (*cell) isNil() bool { return false }

func (c *cell) read() value {
	if len(c.own) == 0 {
		return c.held
	}
	x := c.record()
	fields := x.all()
	for _, o := range c.own {
		fields[o.number] = o.cell.read()
	}
	return &record{x.of, fields}
}

func (c *cell) assign(v value) {
	c.held = v
	for _, o := range c.own {
		o.cell.assign(c.record().field(o.number))
	}
}

// record is the struct that lies in a cell, but for the fields that are cells.
func (c *cell) record() *record {
	x, _ := c.held.(*record)
	return x
}

// search is where a field stands among those that are cells, and whether it does.
func (c *cell) search(number int) (int, bool) {
	return slices.BinarySearchFunc(c.own, number, func(o opened, number int) int { return cmp.Compare(o.number, number) })
}

// open is the cell of a field.
func (c *cell) open(number int) *cell {
	i, ok := c.search(number)
	if !ok {
		c.own = slices.Insert(c.own, i, opened{number, &cell{held: c.record().field(number)}})
	}
	return c.own[i].cell
}

// look is a cell to read a field from: it need not be the field's own.
func (c *cell) look(number int) *cell {
	if i, ok := c.search(number); ok {
		return c.own[i].cell
	}
	return &cell{held: c.record().field(number)}
}

// pointed is the cell that a pointer in a cell points to; without a pointer there it is the cell itself.
func (c *cell) pointed(at api.Place) *cell {
	p, ok := c.held.(pointer)
	if !ok {
		return c
	}
	return p.cell(at)
}

// cell is what a pointer points to.
func (x pointer) cell(at api.Place) *cell {
	if x.to == nil {
		fail(api.EndNil, at)
	}
	return x.to
}

// member goes from a cell to that of a field of what lies there, or of what is pointed to from there.
func (c *cell) member(number int, isRead bool, at api.Place) *cell {
	c = c.pointed(at)
	if isRead {
		return c.look(number)
	}
	return c.open(number)
}
