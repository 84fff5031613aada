package xref

import (
	"strings"

	"moniker/api"
	"moniker/tree"
)

// Outline is a text of all declarations of a file.
func (w *Whole) Outline(file int) string {
	if !w.isFile(file) {
		return ""
	}
	var out strings.Builder
	var ends []int // of the nodes around, by which a line stands further in
	t := w.program.Tree(file)
	for n := range tree.Walk(t, 0, nil) {
		for len(ends) > 0 && ends[len(ends)-1] <= n {
			ends = ends[:len(ends)-1]
		}
		if isAround(t.Nodes[n].Kind) {
			ends = append(ends, n+t.Nodes[n].Size)
		}
		if line := w.line(file, t, n); line != "" {
			out.WriteString(strings.Repeat("  ", len(ends)) + line + "\n")
		}
	}
	return out.String()
}

func isAround(kind api.NodeKind) bool {
	switch kind {
	case api.NodeBlock, api.NodeIf, api.NodeSwitch, api.NodeMatch, api.NodeFor, api.NodeRange, api.NodeCase, api.NodeDefault, api.NodeFunc, api.NodeFuncLit:
		return true
	}
	return false
}

// line is what is told of the declaration that a node makes; "": it makes none.
func (w *Whole) line(file int, t api.Tree, n int) string {
	switch node := t.Nodes[n]; node.Kind {
	case api.NodeImportSpec:
		if t.Nodes[n+1].Kind == api.NodeNone {
			return "import " + w.program.Packs()[w.program.Imported(file, n)].Name
		}
	case api.NodeName:
		d := w.scopes.Makes(api.Place{File: file, Token: node.First})
		if d >= 0 {
			return w.tell(made{d, file, n, t})
		}
	}
	return ""
}

func (w *Whole) tell(m made) string {
	d := w.decls[m.decl]
	line := word(d.Kind) + " " + d.Name
	if d.Of >= 0 {
		line += " of " + w.decls[d.Of].Name
	}
	if id := w.typed(m); id >= 0 {
		line += ": " + w.table.Show(id)
	}
	return line
}

func word(kind api.DeclKind) string {
	switch kind {
	case api.DeclPackage:
		return "package"
	case api.DeclImport:
		return "import"
	case api.DeclConst:
		return "const"
	case api.DeclType:
		return "type"
	case api.DeclVar:
		return "var"
	case api.DeclFunc:
		return "func"
	case api.DeclField:
		return "field"
	case api.DeclEmbed:
		return "embed"
	case api.DeclMethod:
		return "method"
	case api.DeclShape:
		return "shape"
	case api.DeclLabel:
		return "label"
	}
	return ""
}
