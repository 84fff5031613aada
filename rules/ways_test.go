package rules

import (
	"go/ast"
	"go/token"
	"slices"
	"testing"
)

// ways are those of the language's ways that a layer leans on, as far as a file's tree shows them.
var ways = map[string][]string{
	"edits":   {"labelled continue", "append"},
	"lexer":   {"labelled continue", "table", "once", "map field", "function field", "rune"},
	"parser":  {"table", "panic", "defer", "recover", "fallthrough", "function parameter"},
	"tree":    {"function literal", "yield"},
	"format":  {"embedded field", "map of functions"},
	"graphs":  {"type parameter", "function that calls itself"},
	"modules": {"map field", "Sort"},
	"consts":  {"start-up", "table", "fallthrough", "big"},
	"scope":   {"map keyed by a struct", "pointer to its own kind", "Sorted"},
	"types":   {"map keyed by a struct", "map of slices", "labelled break", "Sort", "SortFunc"},
	"flow":    {"type switch", "labelled break", "labelled continue"},
	"check":   {"error of its own", "As", "map keyed by a struct", "map of functions"},
	"xref":    {"interface", "SortFunc", "BinarySearchFunc", "type parameter"},
	"eval":    {"interface", "type switch", "function literal", "panic", "recover", "defer"},
	"ties":    {"map keyed by an array", "delete"},
	"plan":    {"SortFunc", "map keyed by a place", "third index"},
	"rename":  {"list of method values", "error of its own", "As"},
	"build":   {"goroutine", "channel", "WaitGroup", "Mutex", "atomic", "map field"},
	"desk":    {"init", "generic type", "variadic", "function literal"},
}

// words show a way by themselves.
var words = []string{"append", "rune", "panic", "recover", "yield", "Sort", "SortFunc", "Sorted", "big", "As", "BinarySearchFunc", "delete", "WaitGroup", "Mutex", "atomic"}

func TestWays(t *testing.T) {
	found, structs := map[string][]string{}, map[string][]string{}
	for _, s := range sources(t) {
		structs[s.folder] = append(structs[s.folder], structsOf(s.tree)...)
	}
	for _, s := range sources(t) {
		found[s.folder] = append(found[s.folder], waysOf(s.tree, structs[s.folder])...)
	}
	for layer, wanted := range ways {
		for _, way := range wanted {
			if !slices.Contains(found[layer], way) {
				t.Errorf("layer %s has no %s", layer, way)
			}
		}
	}
}

// structsOf are the names of the struct types of a file.
func structsOf(file *ast.File) []string {
	var out []string
	ast.Inspect(file, func(n ast.Node) bool {
		if named, ok := n.(*ast.TypeSpec); ok {
			if _, ok := named.Type.(*ast.StructType); ok {
				out = append(out, named.Name.Name)
			}
		}
		return true
	})
	return out
}

// waysOf are the ways of a file of a package that has these struct types.
func waysOf(file *ast.File, structs []string) []string {
	var out []string
	for _, d := range file.Decls {
		group, ok := d.(*ast.GenDecl)
		if !ok || group.Tok != token.VAR {
			continue
		}
		for _, spec := range group.Specs {
			out = append(out, waysOfVariable(spec.(*ast.ValueSpec))...)
		}
	}
	ast.Inspect(file, func(n ast.Node) bool {
		switch x := n.(type) {
		case *ast.BranchStmt:
			if x.Tok == token.CONTINUE && x.Label != nil {
				out = append(out, "labelled continue")
			}
			if x.Tok == token.BREAK && x.Label != nil {
				out = append(out, "labelled break")
			}
			if x.Tok == token.FALLTHROUGH {
				out = append(out, "fallthrough")
			}
		case *ast.DeferStmt:
			out = append(out, "defer")
		case *ast.SliceExpr:
			if x.Slice3 {
				out = append(out, "third index")
			}
		case *ast.TypeSwitchStmt:
			out = append(out, "type switch")
		case *ast.FuncDecl:
			if x.Recv != nil && x.Name.Name == "Error" {
				out = append(out, "error of its own")
			}
			if x.Recv == nil && x.Name.Name == "init" {
				out = append(out, "init")
			}
		case *ast.GoStmt:
			out = append(out, "goroutine")
		case *ast.ChanType:
			out = append(out, "channel")
		case *ast.Ellipsis:
			out = append(out, "variadic")
		case *ast.FuncLit:
			out = append(out, "function literal")
		case *ast.FuncType:
			out = append(out, wayOfParameters(x)...)
		case *ast.CompositeLit:
			out = append(out, wayOfList(x)...)
		case *ast.MapType:
			out = append(out, wayOfMap(x, file)...)
			out = append(out, wayOfKeys(x, structs)...)
		case *ast.TypeSpec:
			out = append(out, wayOfType(x)...)
			out = append(out, wayOfInterface(x)...)
		case *ast.StructType:
			out = append(out, wayOfStruct(x)...)
		case *ast.AssignStmt:
			out = append(out, wayOfAssignment(x)...)
		case *ast.Ident:
			if slices.Contains(words, x.Name) {
				out = append(out, x.Name)
			}
		case *ast.Field:
			out = append(out, wayOfField(x)...)
		}
		return true
	})
	return out
}

// waysOfVariable tells of variables at package level by what they begin with.
func waysOfVariable(v *ast.ValueSpec) []string {
	var out []string
	for _, value := range v.Values {
		switch value.(type) {
		case *ast.CompositeLit:
			out = append(out, "table")
		case *ast.CallExpr:
			out = append(out, "start-up")
		}
	}
	return out
}

// wayOfList tells of lists of functions that are methods of something.
func wayOfList(l *ast.CompositeLit) []string {
	list, ok := l.Type.(*ast.ArrayType)
	if !ok || len(l.Elts) == 0 {
		return nil
	}
	if _, ok := list.Elt.(*ast.FuncType); !ok {
		return nil
	}
	for _, e := range l.Elts {
		if _, ok := e.(*ast.SelectorExpr); !ok {
			return nil
		}
	}
	return []string{"list of method values"}
}

// wayOfMap tells of functions that are looked up, of a type that is written or named in the same file.
func wayOfMap(m *ast.MapType, file *ast.File) []string {
	var out []string
	ast.Inspect(file, func(n ast.Node) bool {
		named, ok := n.(*ast.TypeSpec)
		if of, same := m.Value.(*ast.Ident); ok && same && named.Name.Name == of.Name {
			if _, ok := named.Type.(*ast.FuncType); ok {
				out = append(out, "map of functions")
			}
		}
		return true
	})
	if _, ok := m.Value.(*ast.FuncType); ok {
		out = append(out, "map of functions")
	}
	return out
}

// wayOfKeys tells of maps by their keys, and of those whose values are lists.
func wayOfKeys(m *ast.MapType, structs []string) []string {
	var out []string
	if of, ok := m.Key.(*ast.Ident); ok && slices.Contains(structs, of.Name) {
		out = append(out, "map keyed by a struct")
	}
	if of, ok := m.Key.(*ast.SelectorExpr); ok && of.Sel.Name == "Place" {
		out = append(out, "map keyed by a place")
	}
	if of, ok := m.Key.(*ast.ArrayType); ok && of.Len != nil {
		out = append(out, "map keyed by an array")
	}
	if list, ok := m.Value.(*ast.ArrayType); ok && list.Len == nil {
		out = append(out, "map of slices")
	}
	return out
}

// wayOfType tells of types with parameters, and of structs that point to others of their kind.
func wayOfType(named *ast.TypeSpec) []string {
	if named.TypeParams != nil {
		return []string{"generic type"}
	}
	s, ok := named.Type.(*ast.StructType)
	if !ok {
		return nil
	}
	for _, f := range s.Fields.List {
		if star, ok := f.Type.(*ast.StarExpr); ok {
			if of, ok := star.X.(*ast.Ident); ok && of.Name == named.Name.Name {
				return []string{"pointer to its own kind"}
			}
		}
	}
	return nil
}

// wayOfInterface tells of interfaces with methods.
func wayOfInterface(named *ast.TypeSpec) []string {
	x, ok := named.Type.(*ast.InterfaceType)
	if !ok || len(x.Methods.List) == 0 {
		return nil
	}
	return []string{"interface"}
}

// wayOfStruct tells of fields without a name of their own.
func wayOfStruct(s *ast.StructType) []string {
	for _, f := range s.Fields.List {
		if len(f.Names) == 0 {
			return []string{"embedded field"}
		}
	}
	return nil
}

// wayOfAssignment tells of a function that is assigned to the name by which it calls itself.
func wayOfAssignment(a *ast.AssignStmt) []string {
	var out []string
	for i, right := range a.Rhs {
		f, ok := right.(*ast.FuncLit)
		if !ok || i >= len(a.Lhs) {
			continue
		}
		name, ok := a.Lhs[i].(*ast.Ident)
		if !ok {
			continue
		}
		ast.Inspect(f.Body, func(n ast.Node) bool {
			if called, ok := n.(*ast.CallExpr); ok {
				if of, ok := called.Fun.(*ast.Ident); ok && of.Name == name.Name {
					out = append(out, "function that calls itself")
				}
			}
			return true
		})
	}
	return out
}

func wayOfParameters(f *ast.FuncType) []string {
	if f.TypeParams != nil {
		return []string{"type parameter"}
	}
	for _, p := range f.Params.List {
		if _, ok := p.Type.(*ast.FuncType); ok {
			return []string{"function parameter"}
		}
	}
	return nil
}

func wayOfField(f *ast.Field) []string {
	switch x := f.Type.(type) {
	case *ast.MapType:
		return []string{"map field"}
	case *ast.FuncType:
		return []string{"function field"}
	case *ast.SelectorExpr:
		if x.Sel.Name == "Once" {
			return []string{"once"}
		}
	}
	return nil
}
