package xref

import (
	"cmp"
	"slices"

	"moniker/api"
)

// shown is a type and its text.
type shown struct {
	text string
	id   int
}

// method is what satisfying asks of a method.
type method struct {
	name string
	id   int
}

// face is an interface type, with the numbers of its methods.
type face struct {
	shown
	methods []int
}

// Satisfied are all pairs of types that are declared, or * of such, and interface types that they satisfy, as texts of Table.Show.
func (w *Whole) Satisfied() [][2]string {
	if w == nil {
		return nil
	}
	all, faces := w.declared()
	numbers := map[method]int{}
	for i := range faces {
		for _, m := range w.methods(faces[i].id) {
			if _, ok := numbers[m]; !ok {
				numbers[m] = len(numbers)
			}
			faces[i].methods = append(faces[i].methods, numbers[m])
		}
	}
	var out [][2]string
	last := make([]int, len(numbers)) // which type, from 1 on, was the last that has the method
	for x, t := range all {
		for _, m := range w.methods(t.id) {
			if n, ok := numbers[m]; ok {
				last[n] = x + 1
			}
		}
		for _, i := range faces {
			if !slices.ContainsFunc(i.methods, func(n int) bool { return last[n] != x+1 }) {
				out = append(out, [2]string{t.text, i.text})
			}
		}
	}
	return out
}

// methods are a type's method set: asked for once, where Satisfies would look each method up anew for every pair.
func (w *Whole) methods(id int) []method {
	var out []method
	for _, d := range w.table.Methods(id) {
		out = append(out, method{w.decls[d].Name, w.table.Of(d)})
	}
	return out
}

// declared are the declared types with the * of each, and the interface types among them, by their texts: no two have one.
func (w *Whole) declared() ([]shown, []face) {
	var all []shown
	var faces []face
	for d, decl := range w.decls {
		if decl.Kind != api.DeclType {
			continue
		}
		id := w.table.Named(d)
		star := w.table.Pointer(id)
		t := shown{w.table.Show(id), id}
		all = append(all, t, shown{w.table.Show(star), star})
		if w.table.Form(id) == api.NodeInterface {
			faces = append(faces, face{shown: t})
		}
	}
	slices.SortFunc(all, func(a, b shown) int { return cmp.Compare(a.text, b.text) })
	slices.SortFunc(faces, func(a, b face) int { return cmp.Compare(a.text, b.text) })
	return all, faces
}
