package ties

import (
	"slices"

	"moniker/api"
)

// method is what satisfying asks of a method.
type method struct {
	name string
	id   int // of its type
}

// face is an interface type.
type face struct {
	decl  int
	from  []int       // the declarations of those whose own methods it has, its own among them
	needs []int       // the methods' numbers, rising
	own   map[int]int // by a method's number: its own declaration, as far as it is asked for
}

// kin are interface types that have the same methods: what satisfies one of them satisfies all.
type kin struct {
	from, needs []int
	own         map[int][]int
}

// tieSatisfied ties the methods of what satisfies an interface type to that one's own. To those that it embeds they are tied by that too, for what satisfies it satisfies also the interface types whose own these are.
func (v *weaver) tieSatisfied() {
	numbers := map[method]int{}
	faces := v.faces(numbers)
	if len(faces) == 0 {
		return
	}
	m := &matcher{weaver: v, kins: kins(faces), numbers: numbers, last: make([]int, len(numbers)), decl: make([]int, len(numbers))}
	m.tieFaces(faces)
	for d, decl := range v.decls {
		if decl.Kind == api.DeclType {
			m.tieMethods(v.table.Pointer(v.table.Named(d))) // its method set holds that of the type itself
		}
	}
}

// faces are the interface types that have a method that is asked for, those with the same methods side by side; methods that were met nowhere get a number.
func (v *weaver) faces(numbers map[method]int) []face {
	var out []face
	for _, d := range v.typesOf(api.NodeInterface) {
		members := v.members(d)
		if slices.ContainsFunc(members, func(m int) bool { return v.isAsked(v.decls[m].Name) }) {
			out = append(out, v.face(d, members, numbers))
		}
	}
	slices.SortStableFunc(out, func(a, b face) int { return slices.Compare(a.needs, b.needs) })
	return out
}

func (v *weaver) face(decl int, members []int, numbers map[method]int) face {
	f := face{decl: decl, own: map[int]int{}}
	for _, m := range members {
		of := v.decls[m].Of
		key := method{v.decls[m].Name, v.table.Of(m)}
		if _, ok := numbers[key]; !ok {
			numbers[key] = len(numbers)
		}
		f.from = append(f.from, of)
		f.needs = append(f.needs, numbers[key])
		if of == decl && v.isAsked(key.name) {
			f.own[numbers[key]] = m
		}
	}
	f.needs, f.from = rising(f.needs), rising(f.from)
	return f
}

// rising are numbers sorted, each once.
func rising(list []int) []int {
	slices.Sort(list)
	return slices.Compact(list)
}

// kins are faces with those that have the same methods put together.
func kins(faces []face) []kin {
	var out []kin
	for _, f := range faces {
		if len(out) == 0 || !slices.Equal(out[len(out)-1].needs, f.needs) {
			out = append(out, kin{needs: f.needs, own: map[int][]int{}})
		}
		last := &out[len(out)-1]
		last.from = append(last.from, f.from...)
		for n, d := range f.own {
			last.own[n] = append(last.own[n], d)
		}
	}
	return out
}

// matcher finds the interface types that something satisfies.
type matcher struct {
	*weaver
	kins    []kin
	numbers map[method]int
	turn    int
	last    []int // by a method's number: the last turn at which something had it
	decl    []int // by a method's number: its declaration in the type whose turn that was
}

// satisfied are the numbers of the kins whose methods are all there.
func (m *matcher) satisfied(has []int) []int {
	m.turn++
	for _, n := range has {
		m.last[n] = m.turn
	}
	isMissing := func(n int) bool { return m.last[n] != m.turn }
	var out []int
	for i, k := range m.kins {
		if !slices.ContainsFunc(k.needs, isMissing) {
			out = append(out, i)
		}
	}
	return out
}

// tieFaces ties all methods of interface types to the own ones of those that they satisfy: face by face of those whose own they are, and each of these to a kin but once.
func (m *matcher) tieFaces(faces []face) {
	number := map[int]int{} // by a type's declaration: that of its face
	for i, f := range faces {
		number[f.decl] = i
	}
	isTied := make([][]bool, len(faces))
	for i := range isTied {
		isTied[i] = make([]bool, len(m.kins))
	}
	for _, k := range m.kins {
		met := m.satisfied(k.needs)
		for _, d := range k.from {
			part, ok := number[d]
			if !ok {
				continue // it has no method that is asked for
			}
			for _, i := range met {
				if !isTied[part][i] {
					isTied[part][i] = true
					m.tieOwn(faces[part], m.kins[i])
				}
			}
		}
	}
}

// tieOwn ties a face's own methods to those of a kin.
func (m *matcher) tieOwn(f face, k kin) {
	for n, d := range f.own {
		if others := k.own[n]; len(others) > 0 {
			m.cross([]int{d}, others)
		}
	}
}

// tieMethods ties the method set of a type that is no interface.
func (m *matcher) tieMethods(id int) {
	var has []int
	for _, d := range m.table.Methods(id) {
		if n, ok := m.numbers[method{m.decls[d].Name, m.table.Of(d)}]; ok {
			has = append(has, n)
			m.decl[n] = d
		}
	}
	for _, i := range m.satisfied(has) {
		for n, own := range m.kins[i].own {
			m.cross([]int{m.decl[n]}, own)
		}
	}
}
