package types_test

import (
	"slices"

	"moniker/api"
)

// path is a type that stands at a depth, with the embedded fields that lead to it.
type path struct {
	text string
	way  []int
}

// levels are all types that stand at each depth below a type: one path for each time that one stands there.
func (w *told) levels(text string) [][]path {
	stood := []string{text}
	level := []path{{text, nil}}
	var out [][]path
	for len(level) > 0 {
		out = append(out, level)
		var next []path
		for _, x := range level {
			for _, d := range w.embeds(x.text) {
				to := w.of(d)
				if isPointer(to) {
					to = to[1:]
				}
				if !slices.Contains(stood, to) {
					next = append(next, path{to, append(slices.Clone(x.way), d)})
				}
			}
		}
		for _, x := range next {
			stood = append(stood, x.text)
		}
		level = next
	}
	return out
}

// embeds are the embedded fields of a struct type.
func (w *told) embeds(text string) []int {
	s := w.specOf(text)
	if s == nil || !w.isBody(*s, api.NodeStruct) {
		return nil
	}
	return slices.DeleteFunc(w.own(*s), func(d int) bool { return w.decls[d].Kind != api.DeclEmbed })
}

// has are the members of a name that a type has itself; of an interface type those that it embeds too.
func (w *told) has(text, name string) []int {
	s := w.specOf(text)
	if s == nil {
		return nil
	}
	all := w.own(*s)
	if w.isBody(*s, api.NodeInterface) {
		all = w.faceMethods(text)
	}
	return slices.DeleteFunc(all, func(d int) bool { return w.decls[d].Name != name })
}

// look: 0.6, 'Looking a name up'.
func (w *told) look(text, name string) (int, []int, bool) {
	if w.specOf(text) == nil {
		return -1, nil, false
	}
	for _, level := range w.levels(text) {
		var finds []path
		for _, x := range level {
			if len(w.has(x.text, name)) > 0 {
				finds = append(finds, x)
			}
		}
		if len(finds) == 1 {
			return w.has(finds[0].text, name)[0], finds[0].way, false
		}
		if len(finds) > 1 {
			return -1, nil, true
		}
	}
	return -1, nil, false
}

// met: 10.10.
func (w *told) met(text, name string) []int {
	s := w.specOf(text)
	if s == nil || !w.isBody(*s, api.NodeStruct) {
		return nil
	}
	var out []int
	for _, level := range w.levels(text) {
		for _, x := range level {
			out = append(out, w.has(x.text, name)...)
		}
	}
	slices.Sort(out)
	return slices.Compact(out)
}

// methods: 0.6, 'Method sets', by name.
func (w *told) methods(text string) []int {
	of, pointed := text, false
	if s := w.specOf(text); s == nil && isPointer(text) {
		of, pointed = text[1:], true
		if isPointer(w.under(of)) || w.isBeneath(of, api.NodeInterface) {
			return nil
		}
	}
	var names []string
	for _, d := range w.decls {
		if d.Kind == api.DeclMethod || d.Kind == api.DeclShape {
			names = append(names, d.Name)
		}
	}
	slices.Sort(names)
	var out []int
	for _, name := range slices.Compact(names) {
		d, way, _ := w.look(of, name)
		if d < 0 || w.decls[d].Kind != api.DeclMethod && w.decls[d].Kind != api.DeclShape {
			continue
		}
		if pointed || w.decls[d].Kind == api.DeclShape || !w.starred(d) || slices.ContainsFunc(way, w.starred) {
			out = append(out, d)
		}
	}
	return out
}

// satisfies and assignable: 0.6.
func (w *told) satisfies(text, to string) bool {
	s := w.specOf(to)
	if s == nil || !w.isBody(*s, api.NodeInterface) {
		return false
	}
	set := w.methods(text)
	return !slices.ContainsFunc(w.methods(to), func(d int) bool {
		return !slices.ContainsFunc(set, func(e int) bool { return w.decls[d].Name == w.decls[e].Name && w.of(d) == w.of(e) })
	})
}

func (w *told) assignable(text, to string) bool {
	plain := func(x string) bool {
		return w.specOf(x) != nil || x == "bool" || x == "int" || x == "string"
	}
	u := w.under(text)
	return text == to || u == w.under(to) && w.specOf(u) == nil && !(plain(text) && plain(to)) || w.satisfies(text, to)
}
