package xref

import (
	"moniker/api"
	"moniker/check"
	"moniker/scope"
	"moniker/tree"
	"moniker/types"
)

// layer is the answer of a layer below, as far as it knows of names: a Whole asks its layers from the top, and the first that tells something holds.
type layer interface {
	// binds are the declarations that an occurrence is bound to; none: the layer knows none.
	binds(at api.Place) []int
	// typed is the type of a declaration; -1: the layer knows none.
	typed(m made) int
}

// made is a declaration with the node of the Name that makes it.
type made struct {
	decl, file, node int
	tree             api.Tree
}

// binds are the declarations that an occurrence binds to.
func (w *Whole) binds(at api.Place) []int {
	for _, l := range w.layers {
		if all := l.binds(at); len(all) > 0 {
			return all
		}
	}
	return nil
}

// typed is the type of a declaration; -1: it has none.
func (w *Whole) typed(m made) int {
	for _, l := range w.layers {
		if id := l.typed(m); id >= 0 {
			return id
		}
	}
	return -1
}

// members are the names that are looked up in types, and the types of values.
type members struct {
	*check.Checks
	decls []api.Decl
}

func (c members) binds(at api.Place) []int { return c.Members(at) }

func (c members) typed(m made) int {
	switch c.decls[m.decl].Kind {
	case api.DeclConst, api.DeclVar:
		return c.Type(m.file, m.node)
	}
	return -1
}

// forms are the types that are written.
type forms struct {
	*types.Table
	decls []api.Decl
}

func (t forms) binds(api.Place) []int { return nil }

func (t forms) typed(m made) int {
	switch t.decls[m.decl].Kind {
	case api.DeclType:
		return t.Under(t.Named(m.decl))
	case api.DeclFunc:
		return t.Func(t.signature(m))
	}
	return t.Of(m.decl)
}

// signature are the types of a func's parameters, one for each Name, and results: its Sig stands right behind its Name.
func (t forms) signature(m made) (params, results []int) {
	sig := m.node + 1
	for _, param := range tree.Kids(m.tree, tree.Kid(m.tree, sig, 0)) {
		id := t.Written(m.file, tree.Kid(m.tree, param, 1))
		for range tree.Kids(m.tree, tree.Kid(m.tree, param, 0)) {
			params = append(params, id)
		}
	}
	for _, n := range tree.Kids(m.tree, tree.Kid(m.tree, sig, 1)) {
		results = append(results, t.Written(m.file, n))
	}
	return params, results
}

// names are those that scopes bind.
type names struct {
	*scope.Scopes
	decls []api.Decl
}

func (s names) binds(at api.Place) []int {
	bound := s.Bound(at)
	if bound < 0 {
		return nil
	}
	if made := s.Makes(at); made >= 0 && s.decls[made].Kind == api.DeclEmbed {
		return []int{bound, made}
	}
	return []int{bound}
}

func (s names) typed(made) int { return -1 }
