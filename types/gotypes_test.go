package types_test

import (
	"go/ast"
	"go/parser"
	"go/token"
	gotypes "go/types"
	"slices"
	"testing"

	"moniker/api"
	"moniker/modules"
	"moniker/scope"
	"moniker/types"
)

// goRead is Go's own reading of a program of one package.
type goRead struct {
	p     *modules.Program
	set   *token.FileSet
	files []*ast.File
	pack  *gotypes.Package
	info  *gotypes.Info
}

// goOf reads a program with Go's own checker, whatever faults it finds in functions.
func goOf(t *testing.T, given []api.File, p *modules.Program) *goRead {
	g := &goRead{p: p, set: token.NewFileSet(), info: &gotypes.Info{Defs: map[*ast.Ident]gotypes.Object{}}}
	for _, f := range given {
		a, err := parser.ParseFile(g.set, f.Name, f.Text, parser.SkipObjectResolution)
		if err != nil {
			t.Fatalf("%q: %v", given, err)
		}
		g.files = append(g.files, a)
	}
	c := gotypes.Config{Error: func(error) {}}
	g.pack, _ = c.Check("main", g.set, g.files, g.info)
	return g
}

// place is the token at a place of Go's.
func (g *goRead) place(pos token.Pos) api.Place {
	for i, a := range g.files {
		f := g.set.File(a.Pos())
		if int(pos) < f.Base() || int(pos) > f.Base()+f.Size() {
			continue
		}
		for k, x := range g.p.Tokens(i) {
			if x.Kind == api.TokName && x.From == f.Offset(pos) {
				return api.Place{File: i, Token: k}
			}
		}
	}
	return api.Place{File: -1}
}

// TestGo: in programs of one package what is found, method sets, what satisfies what and what can be assigned are Go's, of which MiniGo is a part (10.9, 10.11, 10.12).
func TestGo(t *testing.T) {
	r := chance(50)
	asked, many := 0, 0
	for count := 0; count < 80; {
		given := someFiles(r, 2000)
		p, _ := modules.Load(given)
		s, _ := scope.Resolve(p)
		x, f := types.Make(p, s)
		if f != (api.Fault{}) || len(p.Packs()) > 1 {
			continue
		}
		count++
		g := goOf(t, given, p)
		var ids []int
		var theirs []gotypes.Type
		for id, object := range g.info.Defs {
			if _, ok := object.(*gotypes.TypeName); !ok || id.Name == "_" {
				continue
			}
			own := x.Named(s.Makes(g.place(id.Pos())))
			ids = append(ids, own, x.Pointer(own), x.Slice(own), x.Under(own), x.Func([]int{own}, []int{1}))
			of := object.Type()
			sig := gotypes.NewSignatureType(nil, nil, nil, gotypes.NewTuple(gotypes.NewVar(0, nil, "", of)), gotypes.NewTuple(gotypes.NewVar(0, nil, "", gotypes.Typ[gotypes.Int])), false)
			under := of.Underlying()
			if x.Under(own) == own {
				under = of // a Struct or Interface has no type but its declaration's here
			}
			theirs = append(theirs, of, gotypes.NewPointer(of), gotypes.NewSlice(of), under, sig)
		}
		for i, id := range ids {
			asked += g.compareNames(t, given, s, x, id, theirs[i], &many)
			for j, to := range ids {
				face, isFace := theirs[j].Underlying().(*gotypes.Interface)
				if got, want := x.Satisfies(id, to), isFace && gotypes.Implements(theirs[i], face); got != want {
					t.Fatalf("10.12: %q: Satisfies(%s, %s) = %t", given, x.Show(id), x.Show(to), got)
				}
				if got, want := x.Assignable(id, to), gotypes.AssignableTo(theirs[i], theirs[j]); got != want {
					t.Fatalf("10.12: %q: Assignable(%s, %s) = %t", given, x.Show(id), x.Show(to), got)
				}
			}
		}
	}
	if asked < 2000 || many < 20 {
		t.Errorf("only %d found, %d ambiguous", asked, many)
	}
}

// compareNames compares what is found in a type by each name, and its method set; how many were found.
func (g *goRead) compareNames(t *testing.T, given []api.File, s *scope.Scopes, x *types.Table, id int, their gotypes.Type, many *int) int {
	l := s.Decls()
	found := 0
	_, isPointer := their.Underlying().(*gotypes.Pointer) // through which Go looks
	if named, ok := their.(*gotypes.Named); ok && !isPointer {
		for _, name := range append(slices.Clone(pool), "T0", "T1", "T2", "T3", "z") {
			d, way, ambiguous := x.Look(id, name)
			object, index, _ := gotypes.LookupFieldOrMethod(named, true, g.pack, name)
			if ambiguous != (object == nil && index != nil) || (d < 0) != (object == nil) {
				t.Fatalf("10.9: %q: Look(%s, %s) = %d, %t; in Go %v %v", given, x.Show(id), name, d, ambiguous, object, index)
			}
			if ambiguous {
				*many++
			}
			if object == nil {
				continue
			}
			found++
			if at := g.place(object.Pos()); s.Makes(at) != d && !(l[d].Kind == api.DeclShape && l[s.Makes(at)].Kind == api.DeclShape) || len(way) != len(index)-1 {
				t.Fatalf("10.9: %q: Look(%s, %s) = %v %v, in Go %v %v", given, x.Show(id), name, l[d], way, object, index)
			}
		}
	}
	set := gotypes.NewMethodSet(their)
	var want []string
	for i := range set.Len() {
		want = append(want, set.At(i).Obj().Name())
	}
	slices.Sort(want)
	var got []string
	for _, d := range x.Methods(id) {
		got = append(got, l[d].Name)
	}
	if !slices.Equal(got, want) {
		t.Fatalf("10.11: %q: Methods(%s) = %v, in Go %v", given, x.Show(id), got, want)
	}
	return found
}
