package rename

import (
	"slices"

	"moniker/api"
	"moniker/xref"
)

// method is what satisfying asks of a method.
type method struct {
	name string
	id   int // of its type
}

// side is one of the two programs, as far as satisfying is asked of it.
type side struct {
	*xref.Whole
	decls   []api.Decl
	names   [2]string // the old one and the new one
	numbers map[method]int
	sets    map[int][]uint64 // by a type: the numbers of the methods of its method set, a bit each
}

func (q *question) side(w *xref.Whole) *side {
	names := [2]string{q.old.Scopes().Decls()[q.target].Name, q.name}
	return &side{w, w.Scopes().Decls(), names, map[method]int{}, map[int][]uint64{}}
}

// holder is a declared type, or the * of one, with the types of the methods of both names that it has; -1: it has none.
type holder struct {
	id  int
	has [2]int
}

// holders are all of a program, in the order of declarations, the type ahead of the *.
func (s *side) holders() []holder {
	var out []holder
	for d, decl := range s.decls {
		if decl.Kind == api.DeclType {
			id := s.Table().Named(d)
			out = append(out, s.holder(id), s.holder(s.Table().Pointer(id)))
		}
	}
	return out
}

func (s *side) holder(id int) holder {
	out := holder{id: id}
	for i, name := range s.names {
		out.has[i] = s.Table().Of(s.Table().Method(id, name))
	}
	return out
}

// mayMeet tells whether it has, of both names, what an interface type needs.
func (h holder) mayMeet(face holder) bool {
	for i, id := range face.has {
		if id >= 0 && id != h.has[i] {
			return false
		}
	}
	return true
}

// set is a type's method set. It is made when it is first asked for: types may have many methods.
func (s *side) set(id int) []uint64 {
	if out, ok := s.sets[id]; ok {
		return out
	}
	var out []uint64
	for _, d := range s.Table().Methods(id) {
		key := method{s.decls[d].Name, s.Table().Of(d)}
		n, ok := s.numbers[key]
		if !ok {
			n = len(s.numbers)
			s.numbers[key] = n
		}
		for len(out) <= n/64 {
			out = append(out, 0)
		}
		out[n/64] |= 1 << (n % 64)
	}
	s.sets[id] = out
	return out
}

func (s *side) satisfies(id, face int) bool {
	has := s.set(id)
	for i, bits := range s.set(face) {
		if bits != 0 && (i >= len(has) || bits&^has[i] != 0) {
			return false
		}
	}
	return true
}

// isSatisfactionNew tells whether a declared type, or * of one, satisfies an interface type in one of the programs alone. They have the same trees, so the same types are declared. What an interface type needs of other names each type has in both or in neither.
func (q *question) isSatisfactionNew() bool {
	old, now := q.side(q.old), q.side(q.now)
	if !old.isNeeded() {
		return false
	}
	had, has := old.holders(), now.holders()
	faces := old.faces(had)
	for i := range had {
		isNew := func(f int) bool {
			return had[i].mayMeet(had[f]) != has[i].mayMeet(has[f]) && old.satisfies(had[i].id, had[f].id) != now.satisfies(has[i].id, has[f].id)
		}
		if slices.ContainsFunc(faces, isNew) {
			return true
		}
	}
	return false
}

// isNeeded tells whether an interface type has a method of one of the names.
func (s *side) isNeeded() bool {
	return slices.ContainsFunc(s.decls, func(d api.Decl) bool { return d.Kind == api.DeclShape && slices.Contains(s.names[:], d.Name) })
}

// faces are the numbers of those that are interface types and need something of one of the names.
func (s *side) faces(all []holder) []int {
	var out []int
	for i, h := range all {
		if h.has != [2]int{-1, -1} && s.Table().Form(h.id) == api.NodeInterface {
			out = append(out, i)
		}
	}
	return out
}
