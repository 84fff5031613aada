package types

import (
	"iter"
	"slices"

	"moniker/api"
)

// stand is a type that stands at a depth, at the end of a way.
type stand struct {
	spec  *spec
	many  bool   // whether it stands there more than once
	from  *stand // the one that embeds it; nil: it is the type in which a name is looked up
	field int    // the embedded field that leads to it
}

// way are the embedded fields that lead to where a type stands.
func (s *stand) way() []int {
	var out []int
	for ; s.from != nil; s = s.from {
		out = append(out, s.field)
	}
	slices.Reverse(out)
	return out
}

// depths are the types that stand at each depth below a type, from itself on.
func depths(s *spec) iter.Seq[[]*stand] {
	return func(yield func([]*stand) bool) {
		stood := map[int]struct{}{s.decl: {}}
		queue := []*stand{{spec: s}}
		for len(queue) > 0 && yield(queue) {
			queue = below(queue, stood)
		}
	}
}

// below are the types that stand one depth deeper than some, but for those that stood at a lesser depth; to these they are added.
func below(level []*stand, stood map[int]struct{}) []*stand {
	var out []*stand
	met := map[int]*stand{}
	for _, s := range level {
		if s.spec.kind != api.NodeStruct {
			continue
		}
		for _, e := range s.spec.embeds {
			if _, ok := stood[e.to.decl]; ok {
				continue
			}
			if again, ok := met[e.to.decl]; ok {
				again.many = true
				continue
			}
			next := &stand{e.to, s.many, s, e.field}
			met[e.to.decl] = next
			out = append(out, next)
		}
	}
	for _, s := range out {
		stood[s.spec.decl] = struct{}{}
	}
	return out
}

// find is a member (-1: the name is ambiguous), and where the type stands that has it; the zero find: there is none.
type find struct {
	decl int
	at   *stand
}

// isOne tells whether a member is found.
func (f find) isOne() bool { return f.at != nil && f.decl >= 0 }

// and is what a find becomes if there is another at its depth.
func (f find) and(decl int, at *stand) find {
	if f.at != nil || at.many {
		return find{-1, at}
	}
	return find{decl, at}
}

// look finds a member by name.
func look(s *spec, name string) find {
	var found find
search:
	for level := range depths(s) {
		for _, x := range level {
			if list := x.spec.named(name); len(list) > 0 {
				found = found.and(list[0], x)
			}
			if found.decl < 0 {
				break search
			}
		}
		if found.at != nil {
			break search
		}
	}
	return found
}

// lookAll finds all members by their names.
func lookAll(s *spec) map[string]find {
	out := map[string]find{}
	for level := range depths(s) {
		finds := map[string]find{}
		for _, x := range level {
			for name, decl := range x.spec.members() {
				finds[name] = finds[name].and(decl, x)
			}
		}
		for name, f := range finds {
			if _, hidden := out[name]; !hidden {
				out[name] = f
			}
		}
	}
	return out
}
