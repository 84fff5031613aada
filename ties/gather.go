package ties

import (
	"cmp"
	"slices"

	"moniker/api"
	"moniker/scope"
	"moniker/types"
	"moniker/xref"
)

// Which knots are gathered: all of them, or as few as hold each class together.
const (
	everyKnot = false
	fewKnots  = true
)

// weaver gathers the knots of a program.
type weaver struct {
	scopes *scope.Scopes
	table  *types.Table
	decls  []api.Decl
	name   string // the one that is asked for; "": all
	few    bool
	knots  knots
}

// gather are the knots between declarations of a name, or of all names.
func gather(w *xref.Whole, name string, few bool) knots {
	v := &weaver{w.Scopes(), w.Table(), w.Scopes().Decls(), name, few, knots{}}
	if v.areSeveral() {
		v.tieEmbedded()
		v.tieMet()
		v.tieSatisfied()
	}
	return v.knots
}

// areSeveral tells whether there is more than one that might be tied.
func (v *weaver) areSeveral() bool {
	count := 0
	for _, d := range v.decls {
		switch d.Kind {
		case api.DeclType, api.DeclEmbed, api.DeclField, api.DeclMethod, api.DeclShape:
			if v.isAsked(d.Name) {
				count++
			}
		}
	}
	return count > 1
}

func (v *weaver) isAsked(name string) bool { return v.name == "" || v.name == name }

// cross ties each of a list to each of another. Every list is crossed with itself somewhere: so, where few knots will do, the other's first stands for all of it.
func (v *weaver) cross(a, b []int) {
	if v.few {
		b = b[:1]
	}
	v.knots.cross(a, b)
}

// tieEmbedded ties embedded fields to their types.
func (v *weaver) tieEmbedded() {
	for d, decl := range v.decls {
		if decl.Kind == api.DeclEmbed && v.isAsked(decl.Name) {
			v.knots.cross([]int{d}, []int{v.typeOf(d)})
		}
	}
}

// typeOf is the declaration of the type of which an embedded field is made.
func (v *weaver) typeOf(field int) int { return v.scopes.Bound(v.decls[field].At) }

// tieMet ties members that can be met from one struct type. What is met from an embedded type is met from those that embed it: so these go first, and it is left out.
func (v *weaver) tieMet() {
	structs := v.typesOf(api.NodeStruct)
	count := make([]int, len(v.decls))
	for _, d := range structs {
		count[d] = len(v.members(d))
	}
	slices.SortFunc(structs, func(a, b int) int { return cmp.Or(cmp.Compare(count[b], count[a]), cmp.Compare(a, b)) })
	isDone := make([]bool, len(v.decls))
	for _, d := range structs {
		if isDone[d] {
			continue
		}
		members := v.members(d)
		for _, m := range members {
			if v.decls[m].Kind == api.DeclEmbed {
				isDone[v.typeOf(m)] = true
			}
		}
		for _, list := range v.byName(members) {
			v.cross(list, list)
		}
	}
}

// typesOf are the declarations of types whose right sides are of a kind.
func (v *weaver) typesOf(kind api.NodeKind) []int {
	var out []int
	for d, decl := range v.decls {
		if decl.Kind == api.DeclType && v.table.Form(v.table.Named(d)) == kind {
			out = append(out, d)
		}
	}
	return out
}

func (v *weaver) members(decl int) []int { return v.table.Members(v.table.Named(decl)) }

// byName are those of some declarations that have one name, as far as it is asked for.
func (v *weaver) byName(list []int) map[string][]int {
	out := map[string][]int{}
	for _, d := range list {
		if name := v.decls[d].Name; v.isAsked(name) {
			out[name] = append(out[name], d)
		}
	}
	return out
}
