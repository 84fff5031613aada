package types

import (
	"cmp"
	"slices"

	"moniker/api"
)

// spec is what a TypeSpec says.
type spec struct {
	decl, id int          // -1: its name is blank
	kind     api.NodeKind // of its right side
	right    int          // the type that its right side is; -1: none
	under    int          // the underlying type; -1: none
	inBlock  bool
	parts    []int            // the declarations of a struct type's own fields and embedded fields, of an interface type's own methods
	own      map[string][]int // its own members by name, in the order of declarations
	embeds   []embed
}

// unasked is in the place of an underlying type that was not asked for yet.
const unasked = -2

// embed is what a Struct or Interface embeds: the field that this makes (-1: none), and the type.
type embed struct {
	field int
	to    *spec
}

// holders are those whose own members stand for a type's: itself, and of an interface type all that it embeds, however deep, each once.
func (s *spec) holders() []*spec {
	out := []*spec{s}
	if s.kind != api.NodeInterface || len(s.embeds) == 0 {
		return out
	}
	seen := map[int]struct{}{s.decl: {}}
	for i := 0; i < len(out); i++ {
		for _, e := range out[i].embeds {
			if _, ok := seen[e.to.decl]; !ok {
				seen[e.to.decl] = struct{}{}
				out = append(out, e.to)
			}
		}
	}
	return out
}

// named are a type's members of a name, in the order of declarations.
func (s *spec) named(name string) []int {
	var out []int
	for _, h := range s.holders() {
		out = append(out, h.own[name]...)
	}
	slices.Sort(out)
	return out
}

// all are a type's members of whatever name, in any order.
func (s *spec) all() []int {
	var out []int
	for _, h := range s.holders() {
		for _, list := range h.own {
			out = append(out, list...)
		}
	}
	return out
}

// members are for each name the first of a type's members.
func (s *spec) members() map[string]int {
	out := map[string]int{}
	for _, h := range s.holders() {
		for name, list := range h.own {
			if first, ok := out[name]; !ok || list[0] < first {
				out[name] = list[0]
			}
		}
	}
	return out
}

// declared is the TypeSpec of a declared type; nil: the type is none.
func (t *Table) declared(id int) *spec {
	if s, ok := t.shape(id); ok && s.form == isDeclared {
		return t.specs[s.first]
	}
	return nil
}

// Look finds a member by name: its declaration (-1: none), the way, whether it is ambiguous.
func (t *Table) Look(id int, name string) (int, []int, bool) {
	s := t.declared(id)
	if s == nil {
		return -1, nil, false
	}
	found := look(s, name)
	if !found.isOne() {
		return -1, nil, found.at != nil
	}
	return found.decl, found.at.way(), false
}

// Met are all members of a name that can be met from a struct type, hidden ones too.
func (t *Table) Met(id int, name string) []int {
	s := t.declared(id)
	if s == nil || s.kind != api.NodeStruct {
		return nil
	}
	var out []int
	for level := range depths(s) {
		for _, x := range level {
			out = append(out, x.spec.named(name)...)
		}
	}
	slices.Sort(out) // two interface types may embed one and the same
	return slices.Compact(out)
}

// Members are all that can be met from a declared type, whatever their names: of a struct type as Met tells them, of an interface type its own methods and those of all that it embeds, of every other its methods; by number.
func (t *Table) Members(id int) []int {
	s := t.declared(id)
	if s == nil {
		return nil
	}
	var out []int
	for level := range depths(s) {
		for _, x := range level {
			out = append(out, x.spec.all()...)
		}
	}
	slices.Sort(out) // two interface types may embed one and the same
	return slices.Compact(out)
}

// Every are all methods of a name that an interface type has, its own and those of all that it embeds, by number.
func (t *Table) Every(id int, name string) []int {
	s := t.declared(id)
	if s == nil || s.kind != api.NodeInterface {
		return nil
	}
	return s.named(name)
}

// Methods is a type's method set: declarations, by name.
func (t *Table) Methods(id int) []int {
	s, pointed := t.holder(id)
	if s == nil {
		return nil
	}
	var out []int
	for _, f := range lookAll(s) {
		if t.isInSet(f, pointed) {
			out = append(out, f.decl)
		}
	}
	slices.SortFunc(out, func(a, b int) int { return cmp.Compare(t.decls[a].Name, t.decls[b].Name) })
	return out
}

// Method is the method of a name in a type's method set; -1: there is none.
func (t *Table) Method(id int, name string) int {
	if s, pointed := t.holder(id); s != nil {
		if f := look(s, name); t.isInSet(f, pointed) {
			return f.decl
		}
	}
	return -1
}

// isInSet tells whether what was found in a type is a method of it, or of the * of it.
func (t *Table) isInSet(f find, pointed bool) bool {
	if !f.isOne() {
		return false
	}
	switch t.decls[f.decl].Kind {
	case api.DeclShape:
		return true
	case api.DeclMethod:
		isStarred := func(decl int) bool { return t.starred[decl] }
		return pointed || !isStarred(f.decl) || slices.ContainsFunc(f.at.way(), isStarred)
	}
	return false
}

// holder is the declared type in which the methods of a type are found, and whether the type is the * of it; nil: the type has no methods.
func (t *Table) holder(id int) (*spec, bool) {
	s, ok := t.shape(id)
	if !ok || s.form != isPointer {
		return t.declared(id), false
	}
	of := t.declared(s.first)
	if of == nil || of.kind == api.NodeInterface || t.isPointer(of.under) {
		return nil, false
	}
	return of, true
}

func (t *Table) isPointer(id int) bool {
	s, ok := t.shape(id)
	return ok && s.form == isPointer
}

// Satisfies and Assignable.
func (t *Table) Satisfies(id, to int) bool {
	face := t.declared(to)
	if _, ok := t.shape(id); !ok || face == nil || face.kind != api.NodeInterface {
		return false
	}
	method := t.methodFinder(id)
	for _, h := range face.holders() {
		for _, decl := range h.parts {
			if found := method(t.decls[decl].Name); found < 0 || t.of[found] != t.of[decl] {
				return false
			}
		}
	}
	return true
}

// methodFinder finds methods of a type's method set by their names; -1: there is none.
func (t *Table) methodFinder(id int) func(name string) int {
	s, pointed := t.holder(id)
	if s == nil {
		return func(string) int { return -1 }
	}
	found := func(name string) find { return look(s, name) }
	if s.kind == api.NodeInterface {
		all := lookAll(s) // at once, as each look goes through all that is embedded
		found = func(name string) find { return all[name] }
	}
	return func(name string) int {
		if f := found(name); t.isInSet(f, pointed) {
			return f.decl
		}
		return -1
	}
}

func (t *Table) Assignable(id, to int) bool {
	a, ok := t.shape(id)
	b, isType := t.shape(to)
	if !ok || !isType {
		return false
	}
	if a == b {
		return true
	}
	under, _ := t.shape(t.Under(id))
	isWritten := under.form != isDeclared && (!a.hasName() || !b.hasName())
	return isWritten && t.Under(id) == t.Under(to) || t.Satisfies(id, to)
}
