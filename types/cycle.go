package types

import "moniker/api"

// findCycle is ErrCycle of the first type of a package that needs itself, in one of the two ways.
func (m *maker) findCycle(p pack) api.Fault {
	numbers := map[int]int{} // by declaration: which of the entries it is
	for i, e := range p.entries {
		numbers[e.decl] = i
	}
	bare, whole := make([][]int, len(p.entries)), make([][]int, len(p.entries))
	for i, e := range p.entries {
		bare[i] = m.among(numbers, e.needsBare())
		whole[i] = m.among(numbers, e.needsWhole())
	}
	one, other := loops(bare), loops(whole)
	for i, e := range p.entries {
		if one[i] || other[i] {
			return e.in.fault(api.ErrCycle, e.in.first(e.name))
		}
	}
	return api.Fault{}
}

// fault is one at the first byte of a token.
func (s *sheet) fault(why api.Errno, token int) api.Fault {
	return api.Fault{Why: why, File: s.number, At: s.tokens[token].From}
}

// among are those of some types that a package declares; the others stand in packages ahead, which need nothing of this one.
func (m *maker) among(numbers map[int]int, ids []int) []int {
	var out []int
	for _, id := range ids {
		if s := m.declared(id); s != nil {
			if i, ok := numbers[s.decl]; ok {
				out = append(out, i)
			}
		}
	}
	return out
}

// needsBare are the types that a type needs with nothing between: those of its fields, what it embeds, its right side.
func (e entry) needsBare() []int {
	if !e.in.isBody(e.body) {
		return []int{e.right}
	}
	var out []int
	for _, k := range e.in.kids(e.body) {
		switch kids := e.in.kids(k); e.in.kind(k) {
		case api.NodeField:
			out = append(out, e.in.written[kids[1]])
		case api.NodeEmbed:
			out = append(out, e.in.written[kids[0]])
		}
	}
	return out
}

// needsWhole are the types that stand in a right side which is a type, whatever stands between.
func (e entry) needsWhole() []int {
	if e.in.isBody(e.body) {
		return nil
	}
	return e.in.written[e.body : e.body+e.in.tree.Nodes[e.body].Size]
}

// loops tells which of some things need themselves, by way of others too.
func loops(needs [][]int) []bool {
	w := &walk{needs: needs, met: make([]int, len(needs)), low: make([]int, len(needs)), loops: make([]bool, len(needs))}
	for x := range needs {
		if w.met[x] == 0 {
			w.visit(x)
		}
	}
	return w.loops
}

// walk finds things that need one another all round: they stand behind one another in a row, and leave it together.
type walk struct {
	needs [][]int
	met   []int // when each was met, from 1 on
	low   []int // when the first was met that can be come back to
	count int
	row   []int // those that can be come back to
	loops []bool
}

// gone is in the place of when a thing was met that left the row.
const gone = -1

func (w *walk) visit(x int) {
	w.count++
	w.met[x], w.low[x] = w.count, w.count
	begin := len(w.row)
	w.row = append(w.row, x)
	for _, y := range w.needs[x] {
		if w.met[y] == 0 {
			w.visit(y)
		}
		if w.met[y] != gone {
			w.low[x] = min(w.low[x], w.low[y])
			w.loops[x] = w.loops[x] || x == y
		}
	}
	if w.low[x] < w.met[x] {
		return
	}
	together := w.row[begin:]
	for _, y := range together {
		w.met[y] = gone
		w.loops[y] = w.loops[y] || len(together) > 1
	}
	w.row = w.row[:begin]
}
