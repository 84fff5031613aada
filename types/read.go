package types

import (
	"slices"

	"moniker/api"
	"moniker/lexer"
	"moniker/modules"
	"moniker/scope"
	"moniker/tree"
)

// plains are how many of the universe's names, the first ones, are types.
const plains = 3

// maker makes a Table: all that is written is read first; then package by package is judged.
type maker struct {
	*Table
	sheets []*sheet
	packs  []pack
	fault  api.Fault
	turn   [3]int // of the fault
}

// sheet is a file as it is read.
type sheet struct {
	number, pack int
	tokens       []api.Token
	tree         api.Tree
	written      []int
}

// pack is what is to be judged of a package, in the order of files and places.
type pack struct {
	files   []*sheet
	entries []entry
	methods []method
}

// entry is a TypeSpec where it stands: the nodes of its name and right side.
type entry struct {
	*spec
	in         *sheet
	name, body int
}

// method is a Func with a receiver: its declaration (-1: its name is blank), and the node of the receiver's type.
type method struct {
	in         *sheet
	decl, recv int
}

func newMaker(p *modules.Program, s *scope.Scopes) *maker {
	m := &maker{Table: &Table{scopes: s, decls: s.Decls(), numbers: newNumbers()}}
	m.specs, m.of, m.starred = make([]*spec, len(m.decls)), make([]int, len(m.decls)), make([]bool, len(m.decls))
	for i := range plains {
		m.numbers.number(shape{isPlain, i, 0})
	}
	for i, d := range m.decls {
		m.of[i] = -1
		if d.Kind == api.DeclType {
			m.specs[i] = newSpec(i, m.numbers.number(shape{isDeclared, i, 0}))
		}
	}
	for _, k := range p.Packs() {
		m.paths = append(m.paths, lexer.Quote(k.Path))
	}
	m.packs = make([]pack, len(m.paths))
	for i := range p.Files() {
		x := &sheet{number: i, pack: p.Pack(i), tokens: p.Tokens(i), tree: p.Tree(i)}
		m.readTypes(x)
		m.sheets, m.written = append(m.sheets, x), append(m.written, x.written)
		m.packs[x.pack].files = append(m.packs[x.pack].files, x)
	}
	for _, x := range m.sheets {
		m.readDeclarations(x)
	}
	return m
}

func newSpec(decl, id int) *spec {
	return &spec{decl: decl, id: id, right: -1, under: unasked, own: map[string][]int{}}
}

func (s *sheet) kind(n int) api.NodeKind { return s.tree.Nodes[n].Kind }

// first is the number of a node's first token, last that of its last one.
func (s *sheet) first(n int) int { return s.tree.Nodes[n].First }

func (s *sheet) last(n int) int { return s.tree.Nodes[n].End - 1 }

func (s *sheet) kids(n int) []int { return tree.Kids(s.tree, n) }

func (s *sheet) at(token int) api.Place { return api.Place{File: s.number, Token: token} }

// isBody tells whether the right side of a TypeSpec is no type by itself.
func (s *sheet) isBody(n int) bool {
	return s.kind(n) == api.NodeStruct || s.kind(n) == api.NodeInterface
}

// readTypes finds the type of every node, kids ahead of what they stand in.
func (m *maker) readTypes(s *sheet) {
	s.written = slices.Repeat([]int{-1}, len(s.tree.Nodes))
	for n := len(s.written) - 1; n >= 0; n-- {
		kids := s.kids(n)
		switch s.kind(n) {
		case api.NodeName:
			s.written[n] = m.Named(m.scopes.Bound(s.at(s.first(n))))
		case api.NodeSelect:
			s.written[n] = s.written[kids[1]]
		case api.NodeParen:
			s.written[n] = s.written[kids[0]]
		case api.NodeStar:
			s.written[n] = m.numbers.pointer(s.written[kids[0]])
		case api.NodeSliceOf:
			s.written[n] = m.numbers.slice(s.written[kids[0]])
		case api.NodeMapOf:
			s.written[n] = m.numbers.mapping(s.written[kids[0]], s.written[kids[1]])
		case api.NodeFuncOf:
			s.written[n] = m.shapeType(s, kids[0])
		case api.NodeTypeSpec:
			if s.isBody(kids[1]) {
				s.written[kids[1]] = s.written[kids[0]]
			}
		}
	}
}

// shapeType is the func type of a Shape.
func (m *maker) shapeType(s *sheet, n int) int {
	lists := s.kids(n)
	return m.numbers.function(s.typesOf(lists[0]), s.typesOf(lists[1]))
}

// sigType is the func type of a Sig, in which several names may share a type.
func (m *maker) sigType(s *sheet, n int) int {
	lists := s.kids(n)
	var params []int
	for _, param := range s.kids(lists[0]) {
		parts := s.kids(param)
		for range s.kids(parts[0]) {
			params = append(params, s.written[parts[1]])
		}
	}
	return m.numbers.function(params, s.typesOf(lists[1]))
}

// typesOf are the types of a list's nodes.
func (s *sheet) typesOf(list int) []int {
	var out []int
	for _, n := range s.kids(list) {
		out = append(out, s.written[n])
	}
	return out
}

// readDeclarations finds what is said of types and their members.
func (m *maker) readDeclarations(s *sheet) {
	blocksEnd := 0
	for n := range s.tree.Nodes {
		switch s.kind(n) {
		case api.NodeBlock:
			blocksEnd = max(blocksEnd, n+s.tree.Nodes[n].Size)
		case api.NodeTypeSpec:
			m.readSpec(s, n, n < blocksEnd)
		case api.NodeFunc:
			if kids := s.kids(n); s.kind(kids[0]) != api.NodeNone {
				m.readMethod(s, kids)
			}
		}
	}
}

func (m *maker) readSpec(s *sheet, n int, inBlock bool) {
	kids := s.kids(n)
	e := entry{newSpec(-1, -1), s, kids[0], kids[1]}
	if decl := m.makes(s, s.first(e.name)); decl >= 0 {
		e.spec = m.specs[decl]
	}
	e.kind, e.inBlock = s.kind(e.body), inBlock
	if !s.isBody(e.body) {
		e.right = s.written[e.body]
	} else {
		for _, k := range s.kids(e.body) {
			m.readPart(s, e.spec, k)
		}
	}
	m.packs[s.pack].entries = append(m.packs[s.pack].entries, e)
}

// makes is the declaration that a token makes; -1: none.
func (m *maker) makes(s *sheet, token int) int { return m.scopes.Makes(s.at(token)) }

// readPart reads what stands in a Struct or Interface.
func (m *maker) readPart(s *sheet, in *spec, n int) {
	kids := s.kids(n)
	switch s.kind(n) {
	case api.NodeField:
		for _, name := range s.kids(kids[0]) {
			m.addPart(in, m.makes(s, s.first(name)), s.written[kids[1]])
		}
	case api.NodeMethod:
		m.addPart(in, m.makes(s, s.first(kids[0])), m.shapeType(s, kids[1]))
	case api.NodeEmbed:
		decl, id := m.makes(s, s.last(n)), s.written[kids[0]]
		m.addPart(in, decl, id)
		if decl >= 0 {
			m.starred[decl] = s.kind(kids[0]) == api.NodeStar
		}
		if to := m.declared(m.unstarred(id)); to != nil {
			in.embeds = append(in.embeds, embed{decl, to})
		}
	}
}

// addPart adds a part of a Struct or Interface to a type, if it declares a member.
func (m *maker) addPart(in *spec, decl, id int) {
	if decl < 0 {
		return
	}
	m.of[decl] = id
	in.parts = append(in.parts, decl)
	m.addMember(in, decl)
}

func (m *maker) addMember(in *spec, decl int) {
	name := m.decls[decl].Name
	in.own[name] = append(in.own[name], decl)
}

// unstarred is the T of a *T, every other type itself.
func (m *maker) unstarred(id int) int {
	if s, ok := m.shape(id); ok && s.form == isPointer {
		return s.first
	}
	return id
}

// readMethod reads a Func with a receiver; whose member it is turns out when its package is judged.
func (m *maker) readMethod(s *sheet, kids []int) {
	x := method{s, m.makes(s, s.first(kids[1])), s.kids(kids[0])[1]}
	if x.decl >= 0 {
		m.of[x.decl] = m.sigType(s, kids[2])
		m.starred[x.decl] = s.kind(x.recv) == api.NodeStar
	}
	m.packs[s.pack].methods = append(m.packs[s.pack].methods, x)
}
