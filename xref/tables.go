package xref

import (
	"cmp"
	"slices"

	"moniker/api"
)

// gather makes both tables of all bindings.
func (w *Whole) gather() {
	for file, l := range w.pieces {
		for n, p := range l {
			if p.Kind != api.TokName {
				continue
			}
			at := api.Place{File: file, Token: n}
			for _, d := range w.binds(at) {
				w.uses = append(w.uses, api.Use{At: at, Decl: d})
			}
		}
	}
	w.places = slices.Clone(w.uses)
	slices.SortFunc(w.uses, func(a, b api.Use) int { return cmp.Or(byPlace(a, b), byDecl(a, b)) })
	slices.SortFunc(w.places, func(a, b api.Use) int { return cmp.Or(byDecl(a, b), byPlace(a, b)) })
}

func byPlace(a, b api.Use) int {
	return cmp.Or(cmp.Compare(a.At.File, b.At.File), cmp.Compare(a.At.Token, b.At.Token))
}

func byDecl(a, b api.Use) int { return cmp.Compare(a.Decl, b.Decl) }

// stretch are the items of a sorted table that are like another one.
func stretch[T any](table []T, like T, order func(a, b T) int) []T {
	from, _ := slices.BinarySearchFunc(table, like, order)
	to := from
	for to < len(table) && order(table[to], like) == 0 {
		to++
	}
	return table[from:to]
}

// endsBy puts the place behind a piece against another: of pieces that follow one another the first that ends behind a byte holds it.
func endsBy(p api.Token, place int) int { return cmp.Compare(p.To, place) }
