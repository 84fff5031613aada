// Package rules holds the program's own files against the rules for its language: imports, layers, package-level variables, layout.
package rules

import (
	"bytes"
	"go/ast"
	"go/format"
	"go/parser"
	"go/token"
	"io/fs"
	"os"
	"path/filepath"
	"slices"
	"strconv"
	"strings"
	"testing"
)

const (
	root   = ".."
	module = "moniker/"
)

var library = []string{
	"bytes", "cmp", "container/heap", "errors", "iter", "maps", "math", "math/big", "math/bits", "slices", "sort",
	"strconv", "strings", "sync", "sync/atomic", "unicode", "unicode/utf8",
}

// layers in their order: each may call those ahead of it.
var layers = []string{
	"api", "edits", "lexer", "parser", "tree", "format", "graphs", "modules", "consts", "scope", "types", "flow",
	"check", "xref", "eval", "ties", "plan", "rename", "build", "desk",
}

// longest is how many lines a function may have.
const longest = 60

type source struct {
	folder, path string
	text         []byte
	tree         *ast.File
	set          *token.FileSet
}

func (s source) where(n ast.Node) string { return s.set.Position(n.Pos()).String() }

// walk calls do with every file of the project but those of git, and the shared tests where they are laid beside it.
func walk(t *testing.T, do func(path string)) {
	t.Helper()
	err := filepath.WalkDir(root, func(path string, d fs.DirEntry, err error) error {
		switch {
		case err != nil:
			return err
		case d.IsDir() && (d.Name() == ".git" || d.Name() == "sharedtests"):
			return filepath.SkipDir
		case !d.IsDir():
			do(path)
		}
		return nil
	})
	if err != nil {
		t.Fatal(err)
	}
}

// sources are the program's files, those of tests left out.
func sources(t *testing.T) []source {
	t.Helper()
	var out []source
	walk(t, func(path string) {
		if !strings.HasSuffix(path, ".go") || strings.HasSuffix(path, "_test.go") {
			return
		}
		text, err := os.ReadFile(path)
		if err != nil {
			t.Fatal(err)
		}
		set := token.NewFileSet()
		tree, err := parser.ParseFile(set, path, text, parser.ParseComments)
		if err != nil {
			t.Fatal(err)
		}
		out = append(out, source{filepath.Base(filepath.Dir(path)), path, text, tree, set})
	})
	if len(out) < len(layers) {
		t.Fatalf("only %d files", len(out))
	}
	return out
}

func TestImports(t *testing.T) {
	for _, s := range sources(t) {
		own := slices.Index(layers, s.folder)
		for _, i := range s.tree.Imports {
			path, err := strconv.Unquote(i.Path.Value)
			if err != nil {
				t.Fatal(err)
			}
			layer, ours := strings.CutPrefix(path, module)
			if !ours && !slices.Contains(library, path) {
				t.Errorf("%s: imports %s", s.where(i), path)
			}
			if ours && own >= 0 && slices.Index(layers, layer) >= own {
				t.Errorf("%s: layer %s calls %s", s.where(i), s.folder, layer)
			}
		}
	}
}

func TestFolders(t *testing.T) {
	for _, layer := range layers {
		if _, err := os.Stat(filepath.Join(root, layer, layer+".go")); err != nil && layer != "api" {
			t.Error(err)
		}
	}
	walk(t, func(path string) {
		folder := filepath.Base(filepath.Dir(path))
		if folder == "form" || folder == "try" || strings.HasPrefix(folder, "moniker") {
			t.Errorf("%s: a folder may not be named so", path)
		}
		if slices.Contains(layers, folder) && !strings.HasSuffix(path, ".go") {
			t.Errorf("%s: no Go file", path)
		}
	})
}

func TestDirectives(t *testing.T) {
	for _, s := range sources(t) {
		for _, group := range s.tree.Comments {
			for _, c := range group.List {
				if strings.HasPrefix(c.Text, "//go:") || strings.HasPrefix(c.Text, "// +build") {
					t.Errorf("%s: %s", s.where(c), c.Text)
				}
			}
		}
	}
}

func TestVariables(t *testing.T) {
	for _, s := range sources(t) {
		for _, d := range s.tree.Decls {
			group, ok := d.(*ast.GenDecl)
			if !ok || group.Tok != token.VAR {
				continue
			}
			for _, spec := range group.Specs {
				v := spec.(*ast.ValueSpec)
				if len(v.Values) != len(v.Names) {
					t.Errorf("%s: a variable without a value of its own", s.where(v))
				}
				for _, value := range v.Values {
					if why := wrongTable(value); why != "" && !isCallOf(value, "errors", "New") && !isStartUp(s.folder, value) && !isFilled(s.folder, value) {
						t.Errorf("%s: %s", s.where(value), why)
					}
				}
			}
		}
	}
}

// wrongTable tells why a starting value is no table of plain values that are written out.
func wrongTable(value ast.Expr) string {
	table, ok := value.(*ast.CompositeLit)
	if !ok {
		return "no table"
	}
	why := ""
	ast.Inspect(table, func(n ast.Node) bool {
		switch x := n.(type) {
		case *ast.MapType:
			why = "a map"
		case *ast.FuncType:
			why = "a function"
		case *ast.CallExpr:
			why = "a call"
		case *ast.BasicLit:
			if x.Kind == token.FLOAT {
				why = "a float"
			}
		case *ast.UnaryExpr:
			if x.Op == token.AND {
				why = "an address"
			}
		}
		return true
	})
	return why
}

// isStartUp tells whether a value is made by a call at the start where the document asks for it: the bounds of constants.
func isStartUp(folder string, value ast.Expr) bool {
	return folder == "consts" && isCallOf(value, "big", "NewInt")
}

// isFilled tells whether a value is the empty table that func init fills where the document asks for it: the commands of the desk.
func isFilled(folder string, value ast.Expr) bool {
	table, ok := value.(*ast.CompositeLit)
	if !ok || folder != "desk" || len(table.Elts) > 0 {
		return false
	}
	_, ok = table.Type.(*ast.MapType)
	return ok
}

// isCallOf tells whether a value is a call, with one argument, of a package's function.
func isCallOf(value ast.Expr, pack, name string) bool {
	call, ok := value.(*ast.CallExpr)
	if !ok || len(call.Args) != 1 {
		return false
	}
	f, ok := call.Fun.(*ast.SelectorExpr)
	if !ok || f.Sel.Name != name {
		return false
	}
	of, ok := f.X.(*ast.Ident)
	return ok && of.Name == pack
}

func TestLengths(t *testing.T) {
	for _, s := range sources(t) {
		ast.Inspect(s.tree, func(n ast.Node) bool {
			f, ok := n.(*ast.FuncDecl)
			if !ok {
				return true
			}
			if lines := s.set.Position(f.End()).Line - s.set.Position(f.Pos()).Line + 1; lines > longest {
				t.Errorf("%s: %s has %d lines", s.where(f), f.Name.Name, lines)
			}
			return true
		})
	}
}

func TestLayout(t *testing.T) {
	walk(t, func(path string) {
		if !strings.HasSuffix(path, ".go") {
			return
		}
		text, err := os.ReadFile(path)
		if err != nil {
			t.Fatal(err)
		}
		laid, err := format.Source(text)
		if err != nil || !bytes.Equal(text, laid) {
			t.Errorf("%s: not in gofmt's layout: %v", path, err)
		}
	})
}
