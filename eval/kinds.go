package eval

import (
	"moniker/api"
	"moniker/types"
)

// kind is what a run asks of a type. There is one of each type, so that types are identical if their kinds are the same.
type kind struct {
	in    *kinds
	id    int
	form  api.NodeKind
	parts []int // of what lies beneath: see types.Parts
	zero  value
}

// kinds are the types that were asked for.
type kinds struct {
	table *types.Table
	known map[int]*kind
	met   map[[2]int]int // by a type and an interface type: whether it satisfies it
}

func newKinds(t *types.Table) *kinds {
	return &kinds{t, map[int]*kind{}, map[[2]int]int{}}
}

// The universe's types.
const (
	boolType = iota
	intType
	textType
)

// What is known of a type and an interface type; 0: nothing yet.
const (
	yes = 1 + iota
	no
)

// typed is the kind of a type.
func (k *kinds) typed(id int) *kind {
	if out, ok := k.known[id]; ok {
		return out
	}
	out := &kind{in: k, id: id, form: k.table.Form(id)}
	out.parts, _ = k.table.Parts(k.table.Under(id))
	out.zero = out.zeroValue()
	k.known[id] = out
	return out
}

// kindsOf are the kinds of some types.
func (k *kinds) kindsOf(ids []int) []*kind {
	var out []*kind
	for _, id := range ids {
		out = append(out, k.typed(id))
	}
	return out
}

// part is the kind of one of the types that a type is made of.
func (k *kind) part(number int) *kind { return k.in.typed(k.parts[number]) }

func (k *kind) isFace() bool { return k.form == api.NodeInterface }

func (k *kind) zeroValue() value {
	switch k.form {
	case api.NodeStar:
		return pointer{}
	case api.NodeSliceOf:
		return slice{}
	case api.NodeMapOf:
		return mapping{}
	case api.NodeFuncOf:
		return function(nil)
	case api.NodeInterface:
		return face{}
	case api.NodeStruct:
		return &record{of: k}
	}
	switch k.in.table.Under(k.id) {
	case boolType:
		return truth(false)
	case intType:
		return number(0)
	}
	return text("")
}

// holds tells whether a value of an interface type is of a type, or satisfies it.
func (k *kind) holds(x face) bool {
	if x.isNil() || !k.isFace() {
		return x.of == k
	}
	pair := [2]int{x.of.id, k.id}
	if k.in.met[pair] == 0 {
		k.in.met[pair] = no
		if k.in.table.Satisfies(pair[0], pair[1]) {
			k.in.met[pair] = yes
		}
	}
	return k.in.met[pair] == yes
}
