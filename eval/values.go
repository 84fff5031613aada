package eval

import "moniker/api"

// value is a value of MiniGo. It never changes, so that whoever has it may share it: what changes are cells, arrays and tables.
type value interface {
	// isNil tells whether it is nil.
	isNil() bool
}

type (
	truth   bool
	number  int64
	text    string
	pointer struct{ to *cell }
	// mapping is a map; what is stored into it stands in its table.
	mapping struct{ in *table }
	// function is a func: what it does with its arguments, and answers, when it is called at a place.
	function func(r *runner, at api.Place, args []value) []value
	// face is a value of an interface type: a value of a type that is none.
	face struct {
		of   *kind
		held value
	}
	// record is a struct. Without fields it has zero values: these are many where structs lie in structs, and most are never asked for.
	record struct {
		of     *kind
		fields []value
	}
)

func (truth) isNil() bool      { return false }
func (number) isNil() bool     { return false }
func (text) isNil() bool       { return false }
func (*record) isNil() bool    { return false }
func (x pointer) isNil() bool  { return x.to == nil }
func (x slice) isNil() bool    { return x.in == nil }
func (x mapping) isNil() bool  { return x.in == nil }
func (x function) isNil() bool { return x == nil }
func (x face) isNil() bool     { return x.held == nil }

// same is ==: slices, maps, funcs and interface values are compared with nil alone.
func same(a, b value) bool {
	switch a.(type) {
	case truth, number, text, pointer:
		return a == b
	}
	return a.isNil() && b.isNil()
}

// valueOf is the value of a constant, or of a map's key.
func valueOf(v api.Val) value {
	switch v.Sort {
	case api.SortBool:
		return truth(v.Bool)
	case api.SortInt:
		return number(v.Int)
	}
	return text(v.Text)
}

// plain is a bool, a number or a text as it is told, and as a map's key.
func plain(v value) api.Val {
	switch x := v.(type) {
	case truth:
		return api.Val{Sort: api.SortBool, Bool: bool(x)}
	case number:
		return api.Val{Sort: api.SortInt, Int: int64(x)}
	case text:
		return api.Val{Sort: api.SortText, Text: string(x)}
	}
	return api.Val{}
}

// put is a value of one type put into another.
func put(v value, from, to *kind) value {
	if to != nil && to.isFace() && !from.isFace() {
		return face{from, v}
	}
	return v
}

// field is what a struct has in a field.
func (x *record) field(number int) value {
	if x.fields == nil {
		return x.of.part(number).zero
	}
	return x.fields[number]
}

// all are what a struct has in its fields, in a new list.
func (x *record) all() []value {
	out := make([]value, len(x.of.parts))
	for i := range out {
		out[i] = x.field(i)
	}
	return out
}
