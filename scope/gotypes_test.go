package scope_test

import (
	"go/ast"
	"go/parser"
	"go/token"
	"go/types"
	"math/rand/v2"
	"testing"

	"moniker/api"
	"moniker/modules"
	"moniker/scope"
)

// goCheck is Go's own checker, which binds names whatever faults of types it finds.
type goCheck struct {
	p     *modules.Program
	set   *token.FileSet
	files []*ast.File
	done  map[int]*types.Package
	info  *types.Info
}

// goChecked is Go's reading of a program; false: Go's grammar does not take it.
func goChecked(given []api.File, p *modules.Program) (*goCheck, bool) {
	g := &goCheck{p: p, set: token.NewFileSet(), done: map[int]*types.Package{}, info: &types.Info{Uses: map[*ast.Ident]types.Object{}}}
	for _, f := range given {
		a, err := parser.ParseFile(g.set, f.Name, f.Text, parser.SkipObjectResolution)
		if err != nil {
			return nil, false
		}
		g.files = append(g.files, a)
	}
	for n := range p.Packs() {
		g.check(n)
	}
	return g, true
}

func (g *goCheck) Import(path string) (*types.Package, error) {
	for n, k := range g.p.Packs() {
		if k.Path == path {
			return g.check(n), nil
		}
	}
	return nil, nil
}

func (g *goCheck) check(n int) *types.Package {
	if done := g.done[n]; done != nil {
		return done
	}
	k := g.p.Packs()[n]
	var files []*ast.File
	for _, f := range k.Files {
		files = append(files, g.files[f])
	}
	c := types.Config{Importer: g, Error: func(error) {}}
	g.done[n], _ = c.Check("p/"+k.Path, g.set, files, g.info)
	return g.done[n]
}

// place is the token at a place of Go's.
func (g *goCheck) place(pos token.Pos) api.Place {
	for i, a := range g.files {
		f := g.set.File(a.Pos())
		if int(pos) < f.Base() || int(pos) > f.Base()+f.Size() {
			continue
		}
		for k, x := range g.p.Tokens(i) {
			if x.Kind == api.TokName && x.From == f.Offset(pos) {
				return api.Place{File: i, Token: k}
			}
		}
	}
	return api.Place{File: -1}
}

// TestGo: in programs that both read, names are bound as in Go, of which MiniGo is a part (9.4); but for keys, which Go asks the Composite's type for.
func TestGo(t *testing.T) {
	same := 0
	taken(t, 20, 60, func(_ *rand.Rand, given []api.File, p *modules.Program, s *scope.Scopes) {
		g, ok := goChecked(given, p)
		if !ok {
			return
		}
		l := s.Decls()
		keys := keysOf(p)
		for id, object := range g.info.Uses {
			at := g.place(id.Pos())
			bound := s.Bound(at)
			if _, key := keys[at]; key || bound < 0 {
				continue
			}
			isUniverse := object.Pos() == token.NoPos
			if _, isImport := object.(*types.PkgName); isImport && l[bound].Kind == api.DeclImport {
				continue
			}
			if isUniverse != (l[bound].Kind == api.DeclUniverse) || !isUniverse && s.Makes(g.place(object.Pos())) != bound {
				t.Fatalf("9.4: %q: %v %s is bound to %v, in Go to %v", given, at, id.Name, l[bound], object)
			}
			same++
		}
	})
	if same < 4000 {
		t.Errorf("only %d names", same)
	}
}

// keysOf are the keys of Pairs that are bare Names.
func keysOf(p *modules.Program) map[api.Place]struct{} {
	out := map[api.Place]struct{}{}
	for i, g := range wordsOf(p).pages {
		for n, node := range g.tree.Nodes {
			if node.Kind == api.NodeName && g.oneOf(n, 0, api.NodePair) {
				out[api.Place{File: i, Token: node.First}] = struct{}{}
			}
		}
	}
	return out
}
