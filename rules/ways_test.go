package rules

import (
	"go/ast"
	"go/token"
	"slices"
	"testing"
)

// ways are those of the language's ways that a layer leans on, as far as a file's tree shows them.
var ways = map[string][]string{
	"edits": {"labelled continue", "append"},
	"lexer": {"labelled continue", "table", "once", "map field", "function field", "rune"},
}

func TestWays(t *testing.T) {
	found := map[string][]string{}
	for _, s := range sources(t) {
		found[s.folder] = append(found[s.folder], waysOf(s.tree)...)
	}
	for layer, wanted := range ways {
		for _, way := range wanted {
			if !slices.Contains(found[layer], way) {
				t.Errorf("layer %s has no %s", layer, way)
			}
		}
	}
}

func waysOf(file *ast.File) []string {
	var out []string
	for _, d := range file.Decls {
		if group, ok := d.(*ast.GenDecl); ok && group.Tok == token.VAR {
			out = append(out, "table")
		}
	}
	ast.Inspect(file, func(n ast.Node) bool {
		switch x := n.(type) {
		case *ast.BranchStmt:
			if x.Tok == token.CONTINUE && x.Label != nil {
				out = append(out, "labelled continue")
			}
		case *ast.Ident:
			if x.Name == "append" || x.Name == "rune" {
				out = append(out, x.Name)
			}
		case *ast.Field:
			out = append(out, wayOfField(x)...)
		}
		return true
	})
	return out
}

func wayOfField(f *ast.Field) []string {
	switch x := f.Type.(type) {
	case *ast.MapType:
		return []string{"map field"}
	case *ast.FuncType:
		return []string{"function field"}
	case *ast.SelectorExpr:
		if x.Sel.Name == "Once" {
			return []string{"once"}
		}
	}
	return nil
}
