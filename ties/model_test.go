package ties_test

import (
	"slices"

	"moniker/api"
	"moniker/tree"
	"moniker/xref"
)

// model is what 0.11 and the chapter say, word by word; of types it asks method sets and what satisfies what alone.
type model struct {
	w      *xref.Whole
	decls  []api.Decl
	embeds map[int][]int // by a type's declaration: those of the types that stand in its Struct or Interface
	kind   map[int]api.NodeKind
	tied   [][]bool
}

func newModel(w *xref.Whole) *model {
	m := &model{w: w, decls: w.Scopes().Decls(), embeds: map[int][]int{}, kind: map[int]api.NodeKind{}}
	for file := range w.Program().Files() {
		m.read(file)
	}
	for range m.decls {
		m.tied = append(m.tied, make([]bool, len(m.decls)))
	}
	m.asEmbedded()
	m.asMet()
	m.asSatisfied()
	m.asOneFace()
	return m
}

// read finds the TypeSpecs of a file and what their right sides embed.
func (m *model) read(file int) {
	t := m.w.Program().Tree(file)
	for n, node := range t.Nodes {
		if node.Kind != api.NodeTypeSpec {
			continue
		}
		decl := m.w.Scopes().Makes(api.Place{File: file, Token: node.First})
		right := tree.Kid(t, n, 1)
		if decl < 0 {
			continue
		}
		m.kind[decl] = t.Nodes[right].Kind
		for _, part := range tree.Kids(t, right) {
			if t.Nodes[part].Kind != api.NodeEmbed {
				continue
			}
			last := t.Nodes[part].First
			for k := last; k < t.Nodes[part].End; k++ {
				if p, _ := m.w.Program().Token(api.Place{File: file, Token: k}); p.Kind == api.TokName {
					last = k
				}
			}
			m.embeds[decl] = append(m.embeds[decl], m.w.Scopes().Bound(api.Place{File: file, Token: last}))
		}
	}
}

func (m *model) tie(a, b int) {
	if a != b {
		m.tied[a][b], m.tied[b][a] = true, true
	}
}

// reached are a type and all that is embedded in it at any depth.
func (m *model) reached(decl int) []int {
	out := []int{decl}
	for i := 0; i < len(out); i++ {
		for _, e := range m.embeds[out[i]] {
			if !slices.Contains(out, e) {
				out = append(out, e)
			}
		}
	}
	return out
}

// named are the members of a name of a type and of all that is embedded in it.
func (m *model) named(decl int, name string) []int {
	var out []int
	reached := m.reached(decl)
	for d, x := range m.decls {
		if x.Name == name && x.Of >= 0 && slices.Contains(reached, x.Of) {
			out = append(out, d)
		}
	}
	return out
}

// names are those of all members.
func (m *model) names() []string {
	var out []string
	for _, d := range m.decls {
		if d.Of >= 0 && !slices.Contains(out, d.Name) {
			out = append(out, d.Name)
		}
	}
	return out
}

// asEmbedded: (a).
func (m *model) asEmbedded() {
	for d, x := range m.decls {
		if x.Kind == api.DeclEmbed {
			m.tie(d, m.w.Scopes().Bound(x.At))
		}
	}
}

func (m *model) tieAll(a, b []int) {
	for _, x := range a {
		for _, y := range b {
			m.tie(x, y)
		}
	}
}

// asMet: (b).
func (m *model) asMet() {
	for d, kind := range m.kind {
		for _, name := range m.names() {
			if kind == api.NodeStruct {
				m.tieAll(m.named(d, name), m.named(d, name))
			}
		}
	}
}

// asSatisfied: (c).
func (m *model) asSatisfied() {
	table := m.w.Table()
	for i, face := range m.kind {
		for d, kind := range m.kind {
			if face != api.NodeInterface || kind == api.NodeInterface {
				continue
			}
			id := table.Named(d)
			for _, x := range []int{id, table.Pointer(id)} {
				if !table.Satisfies(x, table.Named(i)) {
					continue
				}
				for _, method := range table.Methods(x) {
					m.tieAll([]int{method}, m.named(i, m.decls[method].Name))
				}
			}
		}
	}
}

// asOneFace: (d).
func (m *model) asOneFace() {
	table := m.w.Table()
	for i, a := range m.kind {
		for j, b := range m.kind {
			if a != api.NodeInterface || b != api.NodeInterface || !table.Satisfies(table.Named(i), table.Named(j)) {
				continue
			}
			for _, name := range m.names() {
				m.tieAll(m.named(i, name), m.named(j, name))
			}
		}
	}
}

func (m *model) pairs() [][2]int {
	var out [][2]int
	for a := range m.tied {
		for b := a + 1; b < len(m.tied); b++ {
			if m.tied[a][b] {
				out = append(out, [2]int{a, b})
			}
		}
	}
	return out
}

// class is the least set that holds a declaration and is closed.
func (m *model) class(decl int) []int {
	var out []int
	for d, far := range m.far(decl) {
		if far >= 0 {
			out = append(out, d)
		}
	}
	return out
}

// far is by how many ties each is off from one; -1: no ties lead there.
func (m *model) far(from int) []int {
	far := slices.Repeat([]int{-1}, len(m.decls))
	far[from] = 0
	for changed := true; changed; {
		changed = false
		for a := range m.tied {
			for b := range m.tied {
				if far[a] >= 0 && m.tied[a][b] && (far[b] < 0 || far[b] > far[a]+1) {
					far[b], changed = far[a]+1, true
				}
			}
		}
	}
	return far
}

// why is the least of all shortest rows.
func (m *model) why(from, to int) []int {
	far := m.far(to)
	if far[from] < 0 {
		return nil
	}
	rows := make([][]int, len(m.decls))
	rows[to] = []int{to}
	for step := 1; step <= far[from]; step++ {
		for a := range rows {
			for b := range rows {
				if far[a] != step || far[b] != step-1 || !m.tied[a][b] {
					continue
				}
				if row := append([]int{a}, rows[b]...); rows[a] == nil || slices.Compare(row, rows[a]) < 0 {
					rows[a] = row
				}
			}
		}
	}
	return rows[from]
}
