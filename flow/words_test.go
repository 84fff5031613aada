package flow_test

import (
	"slices"
	"testing"

	"moniker/api"
	"moniker/flow"
	"moniker/tree"
)

// words are the chapter's own: they climb from each node, and look at all Breaks of a file for each statement.
type words struct {
	program
	decls []api.Decl
	pages []page
}

type page struct {
	text   string
	tokens []api.Token
	tree   api.Tree
	up     []int
	leaves map[int]int // by the node of a Break or Continue
}

func newWords(x program) *words {
	w := &words{program: x, decls: x.s.Decls()}
	for i, f := range x.p.Files() {
		g := page{text: f.Text, tokens: x.p.Tokens(i), tree: x.p.Tree(i), leaves: map[int]int{}}
		g.up = make([]int, len(g.tree.Nodes))
		g.up[0] = -1
		for n := range g.tree.Nodes {
			for _, k := range tree.Kids(g.tree, n) {
				g.up[k] = n
			}
		}
		w.pages = append(w.pages, g)
		for n := range g.tree.Nodes {
			if k := g.kind(n); k == api.NodeBreak || k == api.NodeContinue {
				g.leaves[n] = w.leaves(i, n)
			}
		}
	}
	return w
}

func (g page) kind(n int) api.NodeKind { return g.tree.Nodes[n].Kind }

func (g page) kid(n, i int) int {
	kids := tree.Kids(g.tree, n)
	if i < 0 {
		i += len(kids)
	}
	return kids[i]
}

func (g page) is(n int, kinds ...api.NodeKind) bool { return slices.Contains(kinds, g.kind(n)) }

func (w *words) bound(file, n int) int {
	return w.s.Bound(api.Place{File: file, Token: w.pages[file].tree.Nodes[n].First})
}

func (w *words) makes(file, n int) int {
	return w.s.Makes(api.Place{File: file, Token: w.pages[file].tree.Nodes[n].First})
}

// leaves is L3.
func (w *words) leaves(file, n int) int {
	g := w.pages[file]
	may := []api.NodeKind{api.NodeFor, api.NodeRange}
	if g.kind(n) == api.NodeBreak {
		may = append(may, api.NodeSwitch, api.NodeMatch)
	} else if g.kind(n) != api.NodeContinue {
		return -1
	}
	name := g.kid(n, 0)
	for k := g.up[n]; k >= 0 && !g.is(k, api.NodeFunc, api.NodeFuncLit); k = g.up[k] {
		switch {
		case g.kind(name) == api.NodeNone && g.is(k, may...):
			return k
		case g.kind(name) == api.NodeName && g.kind(k) == api.NodeLabel && w.bound(file, name) >= 0 && w.bound(file, name) == w.makes(file, g.kid(k, 0)):
			if last := g.kid(k, -1); g.is(last, may...) {
				return last
			}
			return -1
		}
	}
	return -1
}

// isLeft tells whether a Break of the file leaves a statement.
func (w *words) isLeft(file, n int) bool {
	g := w.pages[file]
	for b, to := range g.leaves {
		if to == n && g.kind(b) == api.NodeBreak {
			return true
		}
	}
	return false
}

// last is the last statement of a Block that is no Empty; -1: there is none.
func (g page) last(block int) int {
	kids := tree.Kids(g.tree, block)
	for i := len(kids) - 1; i >= 0; i-- {
		if g.kind(kids[i]) != api.NodeEmpty {
			return kids[i]
		}
	}
	return -1
}

// ends is L2, row by row.
func (w *words) ends(file, n int) bool {
	g := w.pages[file]
	switch g.kind(n) {
	case api.NodeReturn:
		return true
	case api.NodeDo:
		call := g.kid(n, 0)
		if g.kind(call) != api.NodeCall || g.kind(g.kid(call, 0)) != api.NodeName {
			return false
		}
		d := w.bound(file, g.kid(call, 0))
		return d >= 0 && w.decls[d].Kind == api.DeclUniverse && w.decls[d].Name == "panic"
	case api.NodeBlock:
		last := g.last(n)
		return last >= 0 && w.ends(file, last)
	case api.NodeIf:
		return g.is(g.kid(n, 2), api.NodeBlock) && g.is(g.kid(n, 3), api.NodeBlock, api.NodeIf) && w.ends(file, g.kid(n, 2)) && w.ends(file, g.kid(n, 3))
	case api.NodeFor:
		return g.kind(g.kid(n, 1)) == api.NodeNone && !w.isLeft(file, n)
	case api.NodeSwitch, api.NodeMatch:
		hasDefault := false
		for _, c := range tree.Kids(g.tree, g.kid(n, -1)) {
			hasDefault = hasDefault || g.kind(c) == api.NodeDefault
			block := g.kid(c, -1)
			if last := g.last(block); !w.ends(file, block) && (last < 0 || g.kind(last) != api.NodeFall) {
				return false
			}
		}
		return hasDefault && !w.isLeft(file, n)
	case api.NodeLabel:
		return w.ends(file, g.kid(n, -1))
	}
	return false
}

// isUse is L5 of the Name of an occurrence.
func (w *words) isUse(file, n, decl int) bool {
	g := w.pages[file]
	if w.bound(file, n) != decl || w.makes(file, n) == decl {
		return false
	}
	k := n
	for g.up[k] >= 0 && g.kind(g.up[k]) == api.NodeParen {
		k = g.up[k]
	}
	if list := g.up[k]; g.kind(list) == api.NodeList {
		around := g.up[list]
		isLeft := g.kid(around, 0) == list
		if isLeft && (g.kind(around) == api.NodeDefine || g.kind(around) == api.NodeAssign && g.ownMark(around) == "=") {
			return false
		}
	}
	pair := g.up[n]
	if g.kind(pair) != api.NodePair || g.kid(pair, 0) != n {
		return true
	}
	return !w.isStruct(w.t.Under(w.t.Written(file, g.kid(g.up[g.up[pair]], 0))))
}

// isStruct tells whether a type is that of a TypeSpec whose right side is a Struct.
func (w *words) isStruct(id int) bool {
	for d, x := range w.decls {
		if x.Kind != api.DeclType || w.t.Named(d) != id {
			continue
		}
		g := w.pages[x.At.File]
		for n, k := range g.tree.Nodes {
			if k.Kind == api.NodeTypeSpec && k.First == x.At.Token {
				return g.kind(g.kid(n, 1)) == api.NodeStruct
			}
		}
	}
	return false
}

// ownMark is the spelling of the only token of a node that is none of its kids'.
func (g page) ownMark(n int) string {
	own := tree.Own(g.tokens, g.tree, n)
	t := g.tokens[own[0]]
	return g.text[t.From:t.To]
}

// isUsed tells whether an occurrence in some nodes of a file uses a declaration.
func (w *words) isUsed(file, from, to, decl int) bool {
	for n := from; n < to; n++ {
		if w.pages[file].kind(n) == api.NodeName && w.isUse(file, n, decl) {
			return true
		}
	}
	return false
}

// least is the fault at the first of some tokens.
func (w *words) least(why api.Errno, file int, tokens []int) api.Fault {
	if len(tokens) == 0 {
		return api.Fault{}
	}
	return api.Fault{Why: why, File: file, At: w.pages[file].tokens[slices.Min(tokens)].From}
}

// fault is L4.
func (w *words) fault(file, node int) api.Fault {
	g := w.pages[file]
	end := node + g.tree.Nodes[node].Size
	var lost, open, unused []int
	for n := node; n < end; n++ {
		x := g.tree.Nodes[n]
		switch x.Kind {
		case api.NodeBreak, api.NodeContinue:
			if g.leaves[n] < 0 {
				at := x.First
				if name := g.kid(n, 0); g.kind(name) == api.NodeName {
					at = g.tree.Nodes[name].First
				}
				lost = append(lost, at)
			}
		case api.NodeFunc, api.NodeFuncLit:
			results := g.kid(g.kid(n, -2), 1)
			if len(tree.Kids(g.tree, results)) > 0 && !w.ends(file, g.kid(n, -1)) {
				open = append(open, x.End-1)
			}
		case api.NodeName:
			d := w.makes(file, n)
			if d < 0 {
				continue
			}
			around := g.up[n]
			if g.kind(around) == api.NodeList {
				around = g.up[around]
			}
			if g.is(around, api.NodeVarSpec, api.NodeDefine, api.NodeRange, api.NodeMatch, api.NodeLabel) && !w.isUsed(file, node, end, d) {
				unused = append(unused, x.First)
			}
		}
	}
	for _, f := range []api.Fault{w.least(api.ErrLabel, file, lost), w.least(api.ErrReturn, file, open), w.least(api.ErrUnused, file, unused)} {
		if f.Why != api.OK {
			return f
		}
	}
	return api.Fault{}
}

// imports is L6.
func (w *words) imports(pack int) api.Fault {
	for _, file := range w.p.Packs()[pack].Files {
		g := w.pages[file]
		for n, x := range g.tree.Nodes {
			if x.Kind != api.NodeImportSpec {
				continue
			}
			name := w.p.Packs()[w.p.Imported(file, n)].Name
			if k := g.kid(n, 0); g.kind(k) == api.NodeName {
				name = w.p.Word(api.Place{File: file, Token: g.tree.Nodes[k].First})
			}
			isUsed := false
			for k := range g.tree.Nodes {
				d := -1
				if g.kind(k) == api.NodeName {
					d = w.bound(file, k)
				}
				if d >= 0 && w.decls[d].Kind == api.DeclImport && w.decls[d].Name == name && w.isUse(file, k, d) {
					isUsed = true
				}
			}
			if !isUsed {
				return api.Fault{Why: api.ErrUnused, File: file, At: g.tokens[x.First].From}
			}
		}
	}
	return api.Fault{}
}

// compare asks of every node of a program what flow tells, and holds it against the words.
func compare(t *testing.T, given []api.File, x program, w *words) map[api.Errno]int {
	whys := map[api.Errno]int{}
	for i, g := range w.pages {
		for n := range g.tree.Nodes {
			if got, want := flow.Ends(x.p, x.s, i, n), w.ends(i, n); got != want {
				t.Fatalf("L2: %.2000q: node %d: %t", given, n, got)
			}
			if got, want := flow.Leaves(x.p, x.s, i, n), w.leaves(i, n); got != want {
				t.Fatalf("L3: %.2000q: node %d: %d, not %d", given, n, got, want)
			}
			want := api.Fault{Why: api.ErrArg}
			if g.is(n, api.NodeFunc, api.NodeFuncLit) {
				want = w.fault(i, n)
				whys[want.Why]++
			}
			if got := flow.Func(x.p, x.s, x.t, i, n); got != want {
				t.Fatalf("L4: %.2000q: node %d: %v, not %v", given, n, got, want)
			}
		}
	}
	for pack := range x.p.Packs() {
		if got, want := flow.Imports(x.p, x.s, x.t, pack), w.imports(pack); got != want {
			t.Fatalf("L6: %.2000q: package %d: %v, not %v", given, pack, got, want)
		}
	}
	return whys
}

// TestWords: programs by chance, asked of at every node.
func TestWords(t *testing.T) {
	r := chance(1)
	whys := map[api.Errno]int{}
	for range 400 {
		given := someFiles(r)
		x := opened(t, given)
		for why, count := range compare(t, given, x, newWords(x)) {
			whys[why] += count
		}
	}
	for _, why := range []api.Errno{api.OK, api.ErrLabel, api.ErrReturn, api.ErrUnused} {
		if whys[why] < 100 {
			t.Errorf("only %d of fault %d", whys[why], why)
		}
	}
}
