package tree

import (
	"strings"

	"moniker/api"
)

// names are the kinds', in api's order.
var names = [api.NodeCount]string{
	"None", "List", "File", "Import", "ImportSpec", "Const", "Var", "Types", "ConstSpec", "VarSpec", "TypeSpec", "Func",
	"Recv", "Sig", "Param", "Struct", "Field", "Embed", "Interface", "Method", "Shape", "Star", "SliceOf", "MapOf",
	"FuncOf", "Paren", "Select", "Block", "If", "Switch", "Match", "Case", "Default", "For", "Range", "Label", "Return",
	"Break", "Continue", "Fall", "Empty", "Do", "Step", "Assign", "Define", "Name", "Number", "Char", "Text", "Binary",
	"Sign", "Index", "Slice", "Assert", "Call", "FuncLit", "Composite", "Pair",
}

// Sketch is a tree's shape as text; Draw reads it.
func Sketch(t api.Tree) string {
	if !nested(t) {
		return ""
	}
	var out strings.Builder
	var ends []int // of the nodes whose ( is open
	for n, node := range t.Nodes {
		if n > 0 && t.Nodes[n-1].Size == 1 {
			ends = closeTo(&out, ends, n)
			out.WriteByte(' ')
		}
		out.WriteString(names[node.Kind])
		if node.Size > 1 {
			out.WriteByte('(')
			ends = append(ends, n+node.Size)
		}
	}
	closeTo(&out, ends, len(t.Nodes))
	return out.String()
}

// closeTo writes the ) of all nodes that end at n.
func closeTo(out *strings.Builder, ends []int, n int) []int {
	for len(ends) > 0 && ends[len(ends)-1] == n {
		out.WriteByte(')')
		ends = ends[:len(ends)-1]
	}
	return ends
}

// Draw reads a tree's shape.
func Draw(s string) (api.Tree, api.Errno, int) {
	var nodes []api.Node
	var open []int // the nodes whose ( is open
	at := 0
	for {
		kind, length, ok := nameAt(s[at:])
		at += length
		if !ok {
			return api.Tree{}, api.ErrSketch, at
		}
		nodes = append(nodes, api.Node{Kind: kind, Size: 1})
		if at < len(s) && s[at] == '(' {
			open = append(open, len(nodes)-1)
			at++
			continue
		}
		for len(open) > 0 && at < len(s) && s[at] == ')' {
			top := open[len(open)-1]
			nodes[top].Size = len(nodes) - top
			open = open[:len(open)-1]
			at++
		}
		if len(open) == 0 || at == len(s) || s[at] != ' ' {
			break
		}
		at++
	}
	if len(open) > 0 || at < len(s) {
		return api.Tree{}, api.ErrSketch, at
	}
	return api.Tree{Nodes: nodes}, api.OK, 0
}

// nameAt is the kind whose name a text begins with, and the name's length; false: it begins with none, and so much of it begins a name.
func nameAt(s string) (kind api.NodeKind, length int, ok bool) {
	for k, name := range names {
		n := 0
		for n < len(name) && n < len(s) && name[n] == s[n] {
			n++
		}
		if n > length {
			length, ok = n, false
		}
		if n == length && n == len(name) {
			kind, ok = api.NodeKind(k), true
		}
	}
	return kind, length, ok
}
