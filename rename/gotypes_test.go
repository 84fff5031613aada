package rename_test

import (
	"cmp"
	"fmt"
	"go/ast"
	"go/parser"
	"go/token"
	"go/types"
	"slices"
	"testing"

	"moniker/api"
	"moniker/rename"
)

// goBinds is what Go's own checker binds the identifiers of a file to, each told by the number of the identifier that declares it; or why it refuses the file.
func goBinds(text string) ([]string, error) {
	fset := token.NewFileSet()
	tree, err := parser.ParseFile(fset, "a", text, parser.SkipObjectResolution)
	if err != nil {
		return nil, err
	}
	info := &types.Info{Defs: map[*ast.Ident]types.Object{}, Uses: map[*ast.Ident]types.Object{}, Implicits: map[ast.Node]types.Object{}}
	if _, err := new(types.Config).Check("a", fset, []*ast.File{tree}, info); err != nil {
		return nil, err
	}
	var all []*ast.Ident
	ast.Inspect(tree, func(n ast.Node) bool {
		if id, ok := n.(*ast.Ident); ok {
			all = append(all, id)
		}
		return true
	})
	slices.SortFunc(all, func(a, b *ast.Ident) int { return cmp.Compare(a.Pos(), b.Pos()) })
	number := map[token.Pos]int{}
	for i, id := range all {
		number[id.Pos()] = i
	}
	var out []string
	for _, id := range all {
		o := cmp.Or(info.Uses[id], info.Defs[id])
		switch {
		case o == nil:
			out = append(out, "none")
		case !o.Pos().IsValid():
			out = append(out, o.Name())
		default:
			out = append(out, fmt.Sprint(number[o.Pos()]))
		}
	}
	return out, nil
}

// TestGo: P9, P10: what is accepted Go's own checker takes too, and binds as it was bound; what is refused for its bindings it binds otherwise, or refuses; what would be broken it refuses.
func TestGo(t *testing.T) {
	t.Parallel()
	r := chance(13)
	met := map[api.Errno]int{}
	for i := range 240 {
		given := someWhole(r)
		if i%3 > 0 {
			given = someFaces(r)
		}
		w := opened(t, given)
		old, err := goBinds(given[0].Text)
		if err != nil {
			t.Fatalf("%v: %s", err, given[0].Text)
		}
		for range 8 {
			file, offset, name := someAsk(r, w)
			_, e := rename.Rename(given, file, offset, name)
			met[e]++
			if !slices.Contains([]api.Errno{api.OK, api.ErrBroken, api.ErrBound, api.ErrMeaning, api.ErrClass}, e) {
				continue
			}
			changed, c := judged(given, file, offset, name)
			files := rewritten(given, changed, name)
			if e == api.ErrBound && len(opened(t, files).Decls(c.At)) > 1 {
				continue // several methods of an interface type, of which Go tells one
			}
			now, err := goBinds(files[0].Text)
			isSame := err == nil && slices.Equal(old, now)
			if isSame != (e == api.OK || e == api.ErrMeaning || e == api.ErrClass) || e == api.ErrBroken && err == nil {
				t.Fatalf("P10: %d to %s: %d, Go: %v, %v: %s", offset, name, e, isSame, err, given[0].Text)
			}
		}
	}
	for _, e := range []api.Errno{api.OK, api.ErrBroken, api.ErrBound, api.ErrMeaning, api.ErrClass} {
		if met[e] == 0 {
			t.Errorf("none of %d: %v", e, met)
		}
	}
}
