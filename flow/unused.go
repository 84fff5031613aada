package flow

import (
	"slices"

	"moniker/api"
	"moniker/modules"
	"moniker/scope"
	"moniker/types"
)

// uses are the declarations that are used in a node, with how often.
func (g page) uses(node int, t *types.Table) map[int]int {
	out := map[int]int{}
	isNoUse := make([]bool, g.node(node).Size)
	for n := node; n < g.behind(node); n++ {
		for _, k := range g.noUses(n, t) {
			isNoUse[k-node] = true
		}
		if g.kind(n) != api.NodeName || isNoUse[n-node] {
			continue
		}
		if d := g.bound(n); d >= 0 && d != g.made(n) {
			out[d]++
		}
	}
	return out
}

// noUses are the Names in a node that use nothing for the place at which they stand: those that are assigned to, and fields' keys.
func (g page) noUses(n int, t *types.Table) []int {
	switch g.kind(n) {
	case api.NodeAssign, api.NodeDefine:
		left := g.kids(n)[0]
		if mark := g.markBehind(left); mark == api.TokIs || mark == api.TokNew {
			return g.bare(g.kids(left))
		}
	case api.NodeComposite:
		kids := g.kids(n)
		if t.Form(t.Written(g.file, kids[0])) == api.NodeStruct {
			return g.keys(kids[1])
		}
	}
	return nil
}

// bare are those of some expressions that are Names, in ( ) too.
func (g page) bare(list []int) []int {
	for i, n := range list {
		for g.kind(n) == api.NodeParen {
			n = g.kids(n)[0]
		}
		list[i] = n
	}
	return g.names(list)
}

// names are those of some nodes that are Names.
func (g page) names(list []int) []int {
	return slices.DeleteFunc(list, func(n int) bool { return g.kind(n) != api.NodeName })
}

// keys are the keys of a list's Pairs that are Names.
func (g page) keys(list int) []int {
	var out []int
	for _, n := range g.kids(list) {
		if g.kind(n) == api.NodePair {
			out = append(out, g.kids(n)[0])
		}
	}
	return g.names(out)
}

// unusedName is the first token in a function of a variable or label that is not used; -1: there is none.
func (g page) unusedName(node int, t *types.Table) int {
	used, first := g.uses(node, t), -1
	for n := node; n < g.behind(node); n++ {
		for _, name := range g.declared(n) {
			d := g.made(name)
			if d < 0 || used[d] > 0 {
				continue
			}
			if at := g.first(name); first < 0 || at < first { // a Match's own Name stands behind those of its simple statement
				first = at
			}
		}
	}
	return first
}

// declared are the kids of a node at which it declares variables that must be used, or a label.
func (g page) declared(n int) []int {
	switch g.kind(n) {
	case api.NodeVarSpec, api.NodeDefine, api.NodeRange:
		return g.names(g.kids(g.kids(n)[0]))
	case api.NodeMatch:
		return g.names(g.kids(n)[1:2])
	case api.NodeLabel:
		return g.kids(n)[:1]
	}
	return nil
}

// imported is an ImportSpec, and the declaration that it makes.
type imported struct{ spec, decl int }

// importsOf are the imports of a program by file. Declarations stand in the order of places, so those of imports in that of ImportSpecs.
func importsOf(p *modules.Program, s *scope.Scopes) map[int][]imported {
	var decls []int
	for i, d := range s.Decls() {
		if d.Kind == api.DeclImport {
			decls = append(decls, i)
		}
	}
	out := map[int][]imported{}
	for file := 0; p.Pack(file) >= 0; file++ {
		g := page{p, s, file}
		for _, group := range g.kids(g.kids(0)[1]) {
			for _, spec := range g.kids(group) {
				out[file] = append(out[file], imported{spec, decls[0]})
				decls = decls[1:]
			}
		}
	}
	return out
}

// unusedImport is the token at which the first of a file's imports that is not used is told; -1: there is none.
func (g page) unusedImport(t *types.Table, imports []imported) int {
	if len(imports) == 0 {
		return -1
	}
	used := g.uses(0, t)
	for _, x := range imports {
		if used[x.decl] == 0 {
			return g.first(x.spec) // its name, or its text
		}
	}
	return -1
}
