package xref_test

import (
	"fmt"
	"go/ast"
	"go/parser"
	"go/token"
	"go/types"
	"slices"
	"strconv"
	"testing"

	"moniker/api"
	"moniker/modules"
	"moniker/scope"
	"moniker/xref"
)

// golook is what Go's own checker finds of the same files.
type golook struct {
	t     *testing.T
	w     *xref.Whole
	decls []api.Decl
	fset  *token.FileSet
	trees []*ast.File
	packs map[string]*types.Package
	info  *types.Info
	start map[[2]int]int // by file and byte: a token's number
}

func (g *golook) Import(path string) (*types.Package, error) {
	if p := g.packs[path]; p != nil {
		return p, nil
	}
	var mine []*ast.File
	for i, f := range g.w.Program().Files() {
		if modules.Folder(f.Name) == path {
			mine = append(mine, g.trees[i])
		}
	}
	c := types.Config{Importer: g}
	p, err := c.Check(path, g.fset, mine, g.info)
	g.packs[path] = p
	return p, err
}

// looked reads a program by Go's checker.
func looked(t *testing.T, w *xref.Whole) *golook {
	t.Helper()
	g := &golook{t: t, w: w, decls: w.Scopes().Decls(), fset: token.NewFileSet(), packs: map[string]*types.Package{}, start: map[[2]int]int{}}
	g.info = &types.Info{Defs: map[*ast.Ident]types.Object{}, Uses: map[*ast.Ident]types.Object{}, Selections: map[*ast.SelectorExpr]*types.Selection{}}
	for i, f := range w.Program().Files() {
		tree, err := parser.ParseFile(g.fset, strconv.Itoa(i), f.Text, 0)
		if err != nil {
			t.Fatal(err)
		}
		g.trees = append(g.trees, tree)
		for k, p := range w.Program().Tokens(i) {
			if p.Kind == api.TokName {
				g.start[[2]int{i, p.From}] = k
			}
		}
	}
	for _, path := range []string{"", "x", "x/y"} {
		if _, err := g.Import(path); err != nil {
			t.Fatalf("%v: %.1500q", err, w.Program().Files())
		}
	}
	return g
}

func (g *golook) place(pos token.Pos) api.Place {
	p := g.fset.Position(pos)
	file, _ := strconv.Atoi(p.Filename)
	return api.Place{File: file, Token: g.start[[2]int{file, p.Offset}]}
}

// number is the declaration that an object of Go is.
func (g *golook) number(o types.Object, in int) int {
	if o.Pkg() == nil && !o.Pos().IsValid() {
		return scope.Universe(o.Name())
	}
	if p, ok := o.(*types.PkgName); ok {
		for _, d := range g.w.Scopes().Known(api.Place{File: in}) { // of an import without a name: at its file's first token nothing hides it
			if d2 := g.decls[d]; d2.Kind == api.DeclImport && d2.Name == p.Name() {
				return d
			}
		}
	}
	return g.w.Scopes().Makes(g.place(o.Pos()))
}

// shapes are all methods of a name of an interface type, its own and embedded.
func (g *golook) shapes(t types.Type, name string) []int {
	var out []int
	face, ok := t.Underlying().(*types.Interface)
	if !ok {
		g.t.Fatalf("%v is no interface", t)
	}
	for m := range face.ExplicitMethods() {
		if m.Name() == name {
			out = append(out, g.number(m, 0))
		}
	}
	for e := range face.EmbeddedTypes() {
		out = append(out, g.shapes(e, name)...)
	}
	slices.Sort(out)
	return slices.Compact(out)
}

// selected are the declarations of the f of an x.f.
func (g *golook) selected(s *types.Selection) []int {
	t := s.Recv()
	for _, i := range s.Index()[:len(s.Index())-1] {
		t = deref(t).Underlying().(*types.Struct).Field(i).Type()
	}
	if f, ok := s.Obj().(*types.Func); ok && types.IsInterface(deref(t)) {
		return g.shapes(deref(t), f.Name())
	}
	return []int{g.number(s.Obj(), 0)}
}

func deref(t types.Type) types.Type {
	if p, ok := t.(*types.Pointer); ok {
		return p.Elem()
	}
	return t
}

// bindings are what Go binds each identifier of a file to.
func (g *golook) bindings(file int) map[api.Place][]int {
	out := map[api.Place][]int{}
	tree := g.trees[file]
	ast.Inspect(tree, func(n ast.Node) bool {
		switch x := n.(type) {
		case *ast.SelectorExpr:
			if s := g.info.Selections[x]; s != nil {
				out[g.place(x.Sel.Pos())] = g.selected(s)
			}
		case *ast.Ident:
			at := g.place(x.Pos())
			if x.Name == "_" || out[at] != nil {
				return true
			}
			var l []int
			if o := g.info.Uses[x]; o != nil {
				l = append(l, g.number(o, file))
			}
			if o := g.info.Defs[x]; o != nil {
				l = append(l, g.number(o, file))
			}
			if len(l) == 0 { // a Match's name declares; a package's has no object
				l = []int{g.w.Scopes().Makes(at)}
				if x == tree.Name {
					l = []int{slices.IndexFunc(g.decls, func(d api.Decl) bool {
						return d.Kind == api.DeclPackage && d.Pack == g.w.Program().Pack(file)
					})}
				}
			}
			slices.Sort(l)
			out[at] = l
		}
		return true
	})
	return out
}

// TestGo: 13.2 to 13.4: every occurrence of programs by chance binds to what Go's checker binds it to.
func TestGo(t *testing.T) {
	r := chance(1)
	kinds := map[string]int{}
	for range 300 {
		w := opened(t, someFiles(r))
		g := looked(t, w)
		want := map[api.Place][]int{}
		for file := range g.trees {
			for at, l := range g.bindings(file) {
				want[at] = l
			}
		}
		var uses []api.Use
		for _, at := range occurrences(w) {
			got := w.Decls(at)
			if !slices.Equal(got, want[at]) {
				t.Fatalf("13.2: %s at %v: %s, not %s: %.1500q", w.Program().Word(at), at, told(w, got), told(w, want[at]), w.Program().Files()[at.File].Text)
			}
			delete(want, at)
			for _, d := range got {
				uses = append(uses, api.Use{At: at, Decl: d})
				kinds[fmt.Sprint(kindWord[g.decls[d].Kind], g.decls[d].At == at)]++
			}
			kinds[fmt.Sprint(len(got))]++
		}
		if len(want) > 0 || !slices.Equal(uses, w.Uses()) {
			t.Fatalf("13.4: %d are no occurrences", len(want))
		}
		for d := range g.decls {
			var places []api.Place
			for _, u := range uses {
				if u.Decl == d {
					places = append(places, u.At)
				}
			}
			if !slices.Equal(places, w.Where(d)) {
				t.Fatalf("13.3: declaration %d: %v, not %v", d, w.Where(d), places)
			}
		}
	}
	for _, k := range []string{"universefalse", "packagetrue", "packagefalse", "importtrue", "importfalse", "consttrue", "constfalse", "typetrue", "typefalse", "vartrue", "varfalse", "functrue", "fieldtrue", "fieldfalse", "embedtrue", "embedfalse", "methodtrue", "methodfalse", "shapetrue", "shapefalse", "labeltrue", "labelfalse", "1", "2", "3"} {
		if kinds[k] < 5 {
			t.Errorf("%s only %d times: %v", k, kinds[k], kinds)
		}
	}
}

// TestGoSatisfied: 13.6: what Go says to implement what.
func TestGoSatisfied(t *testing.T) {
	r := chance(2)
	pairs := 0
	for range 200 {
		w := opened(t, someFiles(r))
		g := looked(t, w)
		all := map[string]types.Type{}
		for id, o := range g.info.Defs {
			if n, ok := o.(*types.TypeName); ok {
				d := g.decls[g.number(n, 0)]
				text := strconv.Quote(w.Program().Packs()[d.Pack].Path) + "." + id.Name
				if n.Parent() != n.Pkg().Scope() {
					text += "#" + strconv.Itoa(g.number(n, 0))
				}
				all[text], all["*"+text] = n.Type(), types.NewPointer(n.Type())
			}
		}
		var want [][2]string
		for a, x := range all {
			for b, i := range all {
				if face, ok := i.Underlying().(*types.Interface); ok && types.Implements(x, face) {
					want = append(want, [2]string{a, b})
				}
			}
		}
		slices.SortFunc(want, func(a, b [2]string) int { return slices.Compare(a[:], b[:]) })
		if got := w.Satisfied(); !slices.Equal(got, want) {
			t.Fatalf("13.6: %v, not %v: %.1500q", got, want, w.Program().Files())
		}
		pairs += len(want)
	}
	if pairs < 500 {
		t.Errorf("only %d pairs", pairs)
	}
}
