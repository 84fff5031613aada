package rename

import (
	"slices"

	"moniker/api"
	"moniker/xref"
)

// twins compares types of two programs: declared ones by the numbers of their declarations, others by what they are made of.
type twins struct {
	old, now *xref.Whole
	names    [2]map[int]int // by a type: its declaration
	known    map[[2]int]int // by a pair of types: 1, if they are alike
}

// retyped is the first token of the first expression whose type is another one; false: there is none.
func retyped(old, now *xref.Whole) (api.Place, bool) {
	t := &twins{old: old, now: now, names: [2]map[int]int{named(old), named(now)}, known: map[[2]int]int{}}
	for file := range old.Program().Files() {
		for n, node := range old.Program().Tree(file).Nodes {
			if !slices.EqualFunc(old.Checks().Types(file, n), now.Checks().Types(file, n), t.areAlike) {
				return api.Place{File: file, Token: node.First}, true
			}
		}
	}
	return api.Place{}, false
}

// named are the types that have a declaration, the universe's too.
func named(w *xref.Whole) map[int]int {
	out := map[int]int{}
	for d := range w.Scopes().Decls() {
		if id := w.Table().Named(d); id >= 0 {
			out[id] = d
		}
	}
	return out
}

// areAlike tells whether a type of the old program is one of the new. What was compared is kept: a type may be nested deep, and stand at many nodes.
func (t *twins) areAlike(a, b int) bool {
	pair := [2]int{a, b}
	if is, ok := t.known[pair]; ok {
		return is == 1
	}
	is := t.compare(a, b)
	t.known[pair] = 0
	if is {
		t.known[pair] = 1
	}
	return is
}

func (t *twins) compare(a, b int) bool {
	from, isOld := t.names[0][a]
	to, isNew := t.names[1][b]
	if isOld || isNew {
		return isOld && isNew && from == to
	}
	if t.old.Table().Form(a) != t.now.Table().Form(b) {
		return false
	}
	parts, results := t.old.Table().Parts(a)
	others, ends := t.now.Table().Parts(b)
	return slices.EqualFunc(parts, others, t.areAlike) && slices.EqualFunc(results, ends, t.areAlike)
}
