package types

import (
	"slices"

	"moniker/api"
	"moniker/scope"
)

// judge is the first fault of a package; those that it imports have none.
func (m *maker) judge(number int) api.Fault {
	p := m.packs[number]
	if f := m.findCycle(p); f.Why != api.OK {
		return f
	}
	for _, e := range p.entries {
		m.settle(e.spec)
	}
	for _, e := range p.entries {
		m.settleEmbeds(e.spec)
	}
	for _, s := range p.files {
		m.judgePlaces(s)
	}
	for _, e := range p.entries {
		m.judgeForm(e)
		m.judgeEmbeds(e)
	}
	for _, x := range p.methods {
		m.judgeMethod(x)
	}
	mayClash := m.mayClash()
	for _, e := range p.entries {
		m.judgeMembers(e)
		if mayClash && e.kind == api.NodeInterface {
			m.judgeBrought(e)
		}
	}
	return m.fault
}

// ranks are the faults in the order in which they are told of one byte.
var ranks = []api.Errno{api.ErrType, api.ErrForm, api.ErrKey, api.ErrEmbed, api.ErrRecv, api.ErrTwice}

// tell keeps a fault of the package that is judged, if it is told ahead of all that were met.
func (m *maker) tell(why api.Errno, s *sheet, token int) {
	f := s.fault(why, token)
	turn := [3]int{f.File, f.At, slices.Index(ranks, why)}
	if m.fault.Why == api.OK || slices.Compare(turn[:], m.turn[:]) < 0 {
		m.fault, m.turn = f, turn
	}
}

// settle finds the underlying type of a TypeSpec, and of those that it needs for that.
func (m *maker) settle(s *spec) int {
	if s.under == unasked {
		s.under = s.id
		if s.kind != api.NodeStruct && s.kind != api.NodeInterface {
			s.under = m.beneath(s.right)
		}
	}
	return s.under
}

// beneath is the underlying type of a type; -1: none.
func (m *maker) beneath(id int) int {
	if s := m.declared(id); s != nil {
		return m.settle(s)
	}
	return id
}

// settleEmbeds leaves of what an interface type embeds the interface types alone.
func (m *maker) settleEmbeds(s *spec) {
	if s.kind == api.NodeInterface {
		s.embeds = slices.DeleteFunc(s.embeds, func(e embed) bool { return m.face(e.to.id) == nil })
	}
}

// face is the TypeSpec of an interface type; nil: the type is none, even if one lies beneath it.
func (m *maker) face(id int) *spec {
	if s := m.declared(id); s != nil && s.kind == api.NodeInterface {
		return s
	}
	return nil
}

// judgePlaces looks at what stands in a type's place, and at maps' keys.
func (m *maker) judgePlaces(s *sheet) {
	placed := make([]bool, len(s.tree.Nodes))
	for n := range s.tree.Nodes {
		for _, k := range m.places(s, n, placed[n]) {
			placed[k] = true
		}
		switch kids := s.kids(n); s.kind(n) {
		case api.NodeName, api.NodeSelect:
			if placed[n] && s.written[n] < 0 {
				m.tell(api.ErrType, s, s.last(n))
			}
		case api.NodeMapOf:
			if key := s.written[kids[0]]; key >= 0 && !m.mayBeKey(key) {
				m.tell(api.ErrKey, s, s.first(kids[0]))
			}
		}
	}
}

func (m *maker) mayBeKey(id int) bool {
	s, ok := m.shape(m.beneath(id))
	return ok && s.form == isPlain
}

// places are those of a node's parts that stand in a type's place; some do only if the node itself does.
func (m *maker) places(s *sheet, n int, itself bool) []int {
	kids := s.kids(n)
	switch s.kind(n) {
	case api.NodeVarSpec, api.NodeConstSpec, api.NodeTypeSpec, api.NodeParam, api.NodeField, api.NodeAssert, api.NodeRecv:
		return kids[1:2]
	case api.NodeComposite, api.NodeEmbed:
		return kids[:1]
	case api.NodeSliceOf, api.NodeMapOf:
		return kids
	case api.NodeShape:
		return slices.Concat(s.kids(kids[0]), s.kids(kids[1]))
	case api.NodeSig:
		return s.kids(kids[1])
	case api.NodeMatch:
		return m.caseTypes(s, kids[3])
	case api.NodeStar, api.NodeParen:
		if itself {
			return kids
		}
	}
	return nil
}

// caseTypes are what stands in the Cases of a Match, but for nil.
func (m *maker) caseTypes(s *sheet, clauses int) []int {
	none := scope.Universe("nil")
	var out []int
	for _, c := range s.kids(clauses) {
		if s.kind(c) != api.NodeCase {
			continue
		}
		for _, n := range s.kids(s.kids(c)[0]) {
			if s.kind(n) != api.NodeName || m.scopes.Bound(s.at(s.first(n))) != none {
				out = append(out, n)
			}
		}
	}
	return out
}

// judgeForm looks at a right side that is a type: what lies beneath it may not be declared itself, as Structs and Interfaces are.
func (m *maker) judgeForm(e entry) {
	if m.declared(m.beneath(e.right)) != nil {
		m.tell(api.ErrForm, e.in, e.in.first(e.body))
	}
}

func (m *maker) judgeEmbeds(e entry) {
	for _, k := range e.in.kids(e.body) {
		if e.in.kind(k) != api.NodeEmbed {
			continue
		}
		kid := e.in.kids(k)[0]
		if id := e.in.written[kid]; id >= 0 && !m.mayBeEmbedded(e.kind, id) {
			m.tell(api.ErrEmbed, e.in, e.in.first(kid))
		}
	}
}

// mayBeEmbedded tells whether a type, as it is written, may stand in a Struct or an Interface.
func (m *maker) mayBeEmbedded(in api.NodeKind, id int) bool {
	if in == api.NodeInterface {
		return m.face(id) != nil
	}
	of := m.unstarred(id)
	if m.declared(of) == nil || m.isPointer(m.beneath(of)) {
		return false
	}
	return of == id || m.face(m.beneath(of)) == nil
}

// judgeMethod looks at a receiver; if it may be, the method is its type's member.
func (m *maker) judgeMethod(x method) {
	id := x.in.written[x.recv]
	if id < 0 {
		return
	}
	of := m.declared(m.unstarred(id))
	if of == nil || m.decls[of.decl].Pack != x.in.pack || m.face(of.id) != nil || m.isPointer(of.under) {
		m.tell(api.ErrRecv, x.in, x.in.first(x.recv))
		return
	}
	if x.decl >= 0 {
		m.addMember(of, x.decl)
	}
}

// judgeMembers looks for own members of one name.
func (m *maker) judgeMembers(e entry) {
	for _, list := range e.own {
		slices.Sort(list)
		for _, decl := range list[1:] {
			at := m.decls[decl].At
			m.tell(api.ErrTwice, m.sheets[at.File], at.Token)
		}
	}
}

// judgeBrought looks for methods of an interface type that are of one name and of two types.
func (m *maker) judgeBrought(e entry) {
	met := map[string]int{} // by name: the type
	for _, k := range e.in.kids(e.body) {
		for _, decl := range m.brought(e.in, k) {
			name := m.decls[decl].Name
			if id, ok := met[name]; ok && id != m.of[decl] {
				m.tell(api.ErrTwice, e.in, e.in.first(k))
			}
			met[name] = m.of[decl]
		}
	}
}

// mayClash tells whether there are methods of interface types that are of one name and of two types at all.
func (m *maker) mayClash() bool {
	met := map[string]int{} // by name: the type
	for i, d := range m.decls {
		if d.Kind != api.DeclShape {
			continue
		}
		if id, ok := met[d.Name]; ok && id != m.of[i] {
			return true
		}
		met[d.Name] = m.of[i]
	}
	return false
}

// brought are the methods that a Method or Embed brings into an interface type.
func (m *maker) brought(s *sheet, n int) []int {
	kid := s.kids(n)[0]
	if s.kind(n) == api.NodeMethod {
		if decl := m.makes(s, s.first(kid)); decl >= 0 {
			return []int{decl}
		}
		return nil
	}
	face := m.face(s.written[kid])
	if face == nil {
		return nil
	}
	var out []int
	for _, h := range face.holders() {
		out = append(out, h.parts...)
	}
	return out
}
