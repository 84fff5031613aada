package scope_test

import (
	"slices"
	"sort"

	"moniker/api"
	"moniker/modules"
	"moniker/tree"
)

// told is what 0.5 and chapter 9 say of a program, found out name by name, by looking at all declarations for each, without a thought of how long it takes.
type told struct {
	p     *modules.Program
	pages []wordPage
	decls []wordDecl
	faults
}

// wordPage is a file: its tree with the way up.
type wordPage struct {
	tree   api.Tree
	tokens []api.Token
	up     []int // by node
	place  []int // by node: which kid it is
}

// wordDecl is a declaration, where it is known, and whose scope it is in.
type wordDecl struct {
	api.Decl
	file, token int // what makes it, or the text of an import
	imported    int
	level       int // 0: the universe's, 1: a package's, 2: a file's, 3: a node's; 4: in no scope
	nodes       []int
	known       [][2]int // of its file, or of all
}

// wordFault is a fault with what it is sorted by.
type wordFault struct {
	sort  [5]int
	fault api.Fault
}

type faults []wordFault

func (f faults) first() api.Fault {
	if len(f) == 0 {
		return api.Fault{}
	}
	sort.SliceStable(f, func(i, j int) bool { return slices.Compare(f[i].sort[:], f[j].sort[:]) < 0 })
	return f[0].fault
}

var wordUniverse = []string{"bool", "int", "string", "true", "false", "iota", "nil", "append", "copy", "delete", "len", "make", "new", "panic", "print"}

func wordsOf(p *modules.Program) *told {
	w := &told{p: p}
	for _, name := range wordUniverse {
		w.decls = append(w.decls, wordDecl{Decl: api.Decl{Kind: api.DeclUniverse, Name: name, Pack: -1, Of: -1, At: api.Place{File: -1}}, level: 0, file: -1})
	}
	for i := range p.Files() {
		g := wordPage{tree: p.Tree(i), tokens: p.Tokens(i)}
		g.up, g.place = make([]int, len(g.tree.Nodes)), make([]int, len(g.tree.Nodes))
		for n := range g.tree.Nodes {
			for j, k := range tree.Kids(g.tree, n) {
				g.up[k], g.place[k] = n, j
			}
		}
		g.up[0] = -1
		w.pages = append(w.pages, g)
	}
	for i := range w.pages {
		w.declare(i)
	}
	w.outer()
	for i := range w.pages {
		w.uses(i)
	}
	for i := range w.decls {
		w.whose(i)
	}
	return w
}

func (g wordPage) kind(n int) api.NodeKind {
	if n < 0 {
		return api.NodeCount
	}
	return g.tree.Nodes[n].Kind
}

func (g wordPage) kid(n, i int) int { return tree.Kid(g.tree, n, i) }

// hasScope: 0.5, 'Scopes'.
func (g wordPage) hasScope(n int) bool {
	switch g.kind(n) {
	case api.NodeFunc, api.NodeFuncLit, api.NodeIf, api.NodeSwitch, api.NodeMatch, api.NodeFor, api.NodeRange, api.NodeCase, api.NodeDefault, api.NodeFile:
		return true
	case api.NodeBlock:
		k := g.kind(g.up[n])
		return k != api.NodeFunc && k != api.NodeFuncLit && k != api.NodeCase && k != api.NodeDefault
	}
	return false
}

// around is the nearest node around another of which something holds.
func (g wordPage) around(n int, holds func(int) bool) int {
	for n = g.up[n]; n >= 0 && !holds(n); n = g.up[n] {
	}
	return n
}

func (g wordPage) isFunction(n int) bool {
	return g.kind(n) == api.NodeFunc || g.kind(n) == api.NodeFuncLit
}

func (w *told) word(file, node int) string {
	return w.p.Word(api.Place{File: file, Token: w.pages[file].tree.Nodes[node].First})
}

// isNewRange tells whether a Range has := among its own tokens.
func (g wordPage) isNewRange(n int) bool {
	return slices.ContainsFunc(tree.Own(g.tokens, g.tree, n), func(t int) bool { return g.tokens[t].Kind == api.TokNew })
}

func (w *told) fault(why api.Errno, phase, file, token int) {
	order := []api.Errno{api.ErrTwice, api.ErrSpecial, api.ErrNew, api.ErrUnknown, api.ErrUse}
	at := w.pages[file].tokens[token].From
	w.faults = append(w.faults, wordFault{
		[5]int{slices.Index(w.p.Order(), w.p.Pack(file)), phase, file, at, slices.Index(order, why)},
		api.Fault{Why: why, File: file, At: at},
	})
}

// declare goes through the Names of a file, and asks of each what it declares.
func (w *told) declare(file int) {
	g := w.pages[file]
	for n, node := range g.tree.Nodes {
		name := ""
		if node.Kind == api.NodeName {
			name = w.word(file, n)
		}
		d := wordDecl{Decl: api.Decl{Name: name, Pack: w.p.Pack(file), Of: -1, At: api.Place{File: file, Token: node.First}}, file: file, token: node.First, level: 3}
		if node.Kind == api.NodeText && g.kind(g.up[n]) == api.NodeImportSpec && g.kind(g.kid(g.up[n], 0)) == api.NodeNone {
			d.Kind, d.level, d.imported = api.DeclImport, 2, w.p.Imported(file, g.up[n])
			d.Name, d.At = w.p.Packs()[d.imported].Name, api.Place{File: -1}
			w.decls = append(w.decls, d)
		}
		if node.Kind == api.NodeName && name != "_" && w.kindOf(file, n, &d) {
			w.decls = append(w.decls, d)
		}
	}
}

// kindOf tells whether a Name declares, and fills in what, and where it is known.
func (w *told) kindOf(file, n int, d *wordDecl) bool {
	g := w.pages[file]
	up, place := g.up[n], g.place[n]
	top, list := g.up[up], g.place[up] // of a Name in a list
	end := func(node int) int { return g.tree.Nodes[node].End }
	first := func(node int) int { return g.tree.Nodes[node].First }
	home := g.around(n, g.hasScope)
	switch g.kind(up) {
	case api.NodeFile:
		d.Kind, d.level = api.DeclPackage, 4
		return w.p.Packs()[w.p.Pack(file)].Files[0] == file
	case api.NodeImportSpec:
		d.Kind, d.level, d.imported = api.DeclImport, 2, w.p.Imported(file, up)
		return true
	case api.NodeTypeSpec:
		d.Kind, d.nodes = api.DeclType, []int{home}
		d.known = [][2]int{{first(n), end(home)}}
		if place == 0 && home == 0 {
			d.level = 1
		}
		return place == 0
	case api.NodeFunc:
		d.Kind, d.level = api.DeclFunc, 1
		if g.kind(g.kid(up, 0)) != api.NodeNone {
			d.Kind, d.level = api.DeclMethod, 4
		}
		return true
	case api.NodeRecv:
		block := g.kid(top, 3)
		d.Kind, d.nodes, d.known = api.DeclVar, []int{top}, [][2]int{{first(block), end(block)}}
		return place == 0
	case api.NodeMethod:
		d.Kind, d.level = api.DeclShape, 4
		return true
	case api.NodeLabel:
		d.Kind, d.level, d.nodes = api.DeclLabel, 4, []int{g.around(n, g.isFunction)}
		return place == 0
	case api.NodeMatch:
		d.Kind = api.DeclVar
		for _, c := range tree.Kids(g.tree, g.kid(up, 3)) {
			block := tree.Kids(g.tree, c)[len(tree.Kids(g.tree, c))-1]
			d.nodes, d.known = append(d.nodes, c), append(d.known, [2]int{first(block), end(block)})
		}
		return place == 1
	case api.NodeList:
		if list == 0 {
			return w.kindOfListed(file, n, top, home, d)
		}
	}
	return w.isEmbed(file, n, d)
}

// kindOfListed is kindOf for a Name in the first list of a node.
func (w *told) kindOfListed(file, n, top, home int, d *wordDecl) bool {
	g := w.pages[file]
	switch g.kind(top) {
	case api.NodeField:
		d.Kind, d.level = api.DeclField, 4
		return true
	case api.NodeParam:
		f := g.around(n, g.isFunction)
		kids := tree.Kids(g.tree, f)
		block := g.tree.Nodes[kids[len(kids)-1]]
		d.Kind, d.nodes, d.known = api.DeclVar, []int{f}, [][2]int{{block.First, block.End}}
		return true
	case api.NodeConstSpec, api.NodeVarSpec:
		d.Kind, d.nodes = api.DeclVar, []int{home}
		if g.kind(top) == api.NodeConstSpec {
			d.Kind = api.DeclConst
		}
		d.known = [][2]int{{g.tree.Nodes[top].End, g.tree.Nodes[home].End}}
		if home == 0 {
			d.level = 1
		}
		return true
	case api.NodeRange:
		block := g.tree.Nodes[g.kid(top, 2)]
		d.Kind, d.nodes, d.known = api.DeclVar, []int{top}, [][2]int{{block.First, block.End}}
		return g.isNewRange(top)
	case api.NodeDefine:
		d.Kind, d.nodes, d.known = api.DeclVar, []int{home}, [][2]int{{g.tree.Nodes[top].End, g.tree.Nodes[home].End}}
		return w.isNew(d, g.tree.Nodes[top].First)
	}
	return false
}

// isNew: 9.1, 'A Define's name'; a name that stands twice on the left is declared twice.
func (w *told) isNew(d *wordDecl, define int) bool {
	for _, e := range w.decls {
		if e.file == d.file && e.level == 3 && e.Name == d.Name && slices.Contains(e.nodes, d.nodes[0]) && e.Kind != api.DeclType && e.token < define {
			return false
		}
	}
	return true
}

// isEmbed tells whether a Name is the last one of an embedded type in a Struct.
func (w *told) isEmbed(file, n int, d *wordDecl) bool {
	g := w.pages[file]
	x := n
	if g.kind(g.up[x]) == api.NodeSelect && g.place[x] == 1 {
		x = g.up[x]
	}
	if g.kind(g.up[x]) == api.NodeStar {
		x = g.up[x]
	}
	d.Kind, d.level = api.DeclEmbed, 4
	return g.kind(g.up[x]) == api.NodeEmbed && g.kind(g.up[g.up[x]]) == api.NodeStruct
}

// outer looks for the faults of all declarations by each other, and of special names.
func (w *told) outer() {
	for i, d := range w.decls {
		for _, e := range w.decls[:i] {
			if d.Name != e.Name || d.level != e.level || d.level == 0 || d.level == 4 && d.Kind != api.DeclLabel {
				continue
			}
			both := d.Kind == api.DeclFunc && e.Kind == api.DeclFunc && d.Name == "init"
			switch {
			case d.level == 1 && d.Pack == e.Pack && !both, d.level == 2 && d.file == e.file:
				w.fault(api.ErrTwice, 0, d.file, d.token)
			case d.level >= 3 && d.file == e.file && (d.level == 3 || e.Kind == api.DeclLabel) && slices.ContainsFunc(d.nodes, func(n int) bool { return slices.Contains(e.nodes, n) }):
				w.fault(api.ErrTwice, 1, d.file, d.token)
			}
		}
		for _, e := range w.decls {
			if d.level == 2 && e.level == 1 && d.Name == e.Name && d.Pack == e.Pack {
				w.fault(api.ErrTwice, 0, d.file, d.token)
			}
		}
		if d.Name == "main" || d.Name == "init" {
			w.special(d)
		}
	}
}

func (w *told) special(d wordDecl) {
	switch {
	case d.Kind == api.DeclPackage:
	case d.level == 1 || d.level == 2:
		if d.Kind == api.DeclFunc {
			g := w.pages[d.file]
			f := slices.IndexFunc(g.tree.Nodes, func(n api.Node) bool { return n.Kind == api.NodeName && n.First == d.token })
			sig := g.kid(g.up[f], 2)
			plain := g.tree.Nodes[g.kid(sig, 0)].Size == 1 && g.tree.Nodes[g.kid(sig, 1)].Size == 1
			if plain && (d.Name == "init" || w.p.Packs()[d.Pack].Name == "main") {
				return
			}
		}
		w.fault(api.ErrSpecial, 0, d.file, d.token)
	default:
		w.fault(api.ErrSpecial, 1, d.file, d.token)
	}
}

// isKnown tells whether a declaration is known at a token: the chapter's table.
func (w *told) isKnown(i, file, token int) bool {
	d := w.decls[i]
	switch d.level {
	case 0:
		return d.Name != "iota" || w.counts(file, token)
	case 1:
		return d.Pack == w.p.Pack(file) && (d.Kind != api.DeclFunc || d.Name != "init")
	case 2:
		return d.file == file
	case 3:
		return d.file == file && slices.ContainsFunc(d.known, func(r [2]int) bool { return r[0] <= token && token < r[1] })
	}
	return false
}

// counts tells whether a token lies in the list of expressions of a ConstSpec.
func (w *told) counts(file, token int) bool {
	g := w.pages[file]
	for n, node := range g.tree.Nodes {
		if node.Kind == api.NodeList && g.kind(g.up[n]) == api.NodeConstSpec && g.place[n] == 2 && node.First <= token && token < node.End {
			return true
		}
	}
	return false
}

// declAt is the declaration of a name at a token: of those known the one whose scope is the innermost; -1: none.
func (w *told) declAt(name string, file, token int) int {
	best, level, node := -1, -1, -1
	for i, d := range w.decls {
		if d.Name != name || !w.isKnown(i, file, token) {
			continue
		}
		own := -1
		for j, r := range d.known {
			if r[0] <= token && token < r[1] && d.level == 3 {
				own = d.nodes[j]
			}
		}
		if d.level > level || d.level == level && own > node { // of nodes around one place the inner one has the greater number
			best, level, node = i, d.level, own
		}
	}
	return best
}

func (w *told) makes(file, token int) int {
	return slices.IndexFunc(w.decls, func(d wordDecl) bool { return d.At == api.Place{File: file, Token: token} })
}

// uses looks for the faults of a file's Names that are uses, and of Defines without anything new.
func (w *told) uses(file int) {
	g := w.pages[file]
	for n, node := range g.tree.Nodes {
		if node.Kind == api.NodeDefine {
			names := tree.Kids(g.tree, g.kid(n, 0))
			if !slices.ContainsFunc(names, func(k int) bool { return w.makes(file, g.tree.Nodes[k].First) >= 0 }) {
				w.fault(api.ErrNew, 1, file, node.First)
			}
		}
		if node.Kind != api.NodeName || w.word(file, n) == "_" {
			continue
		}
		up := g.up[n]
		made := w.makes(file, node.First)
		isUse := made < 0 || w.decls[made].Kind == api.DeclEmbed
		isPair := g.kind(up) == api.NodePair && g.place[n] == 0
		if !isUse || g.kind(up) == api.NodeFile || isPair {
			continue
		}
		bound, qualified := w.bound(file, n)
		isMember := g.kind(up) == api.NodeSelect && g.place[n] == 1 && !qualified
		isPack := g.kind(up) == api.NodeSelect && g.place[n] == 0
		switch {
		case isMember:
		case bound < 0:
			w.fault(api.ErrUnknown, 1, file, node.First)
		case w.decls[bound].Kind == api.DeclImport && !isPack:
			w.fault(api.ErrUse, 1, file, node.First)
		}
	}
}

// bound: 9.4, and whether the Name is the x of a qualified p.x.
func (w *told) bound(file, n int) (int, bool) {
	g := w.pages[file]
	token, name, up := g.tree.Nodes[n].First, w.word(file, n), g.up[n]
	if name == "_" {
		return -1, false
	}
	switch g.kind(up) {
	case api.NodeFile:
		first := w.p.Packs()[w.p.Pack(file)].Files[0]
		return slices.IndexFunc(w.decls, func(d wordDecl) bool { return d.Kind == api.DeclPackage && d.file == first }), false
	case api.NodeBreak, api.NodeContinue:
		f := g.around(n, g.isFunction)
		return slices.IndexFunc(w.decls, func(d wordDecl) bool {
			return d.Kind == api.DeclLabel && d.file == file && d.nodes[0] == f && d.Name == name
		}), false
	case api.NodeSelect:
		if g.place[n] == 0 {
			break
		}
		p := g.kid(up, 0)
		if g.kind(p) != api.NodeName {
			return -1, false
		}
		i := w.declAt(w.word(file, p), file, g.tree.Nodes[p].First)
		if i < 0 || w.decls[i].Kind != api.DeclImport {
			return -1, false
		}
		return slices.IndexFunc(w.decls, func(d wordDecl) bool {
			return d.level == 1 && d.Pack == w.decls[i].imported && d.Name == name && name != "init"
		}), true
	}
	if made := w.makes(file, token); made >= 0 && w.decls[made].Kind != api.DeclEmbed {
		return made, false
	}
	return w.declAt(name, file, token), false
}

// whose: 9.2, Of.
func (w *told) whose(i int) {
	d := &w.decls[i]
	if d.level != 4 || d.Kind == api.DeclPackage || d.Kind == api.DeclLabel {
		return
	}
	g := w.pages[d.file]
	n := slices.IndexFunc(g.tree.Nodes, func(n api.Node) bool { return n.Kind == api.NodeName && n.First == d.token })
	if d.Kind == api.DeclMethod {
		of := g.kid(g.kid(g.up[n], 0), 1)
		if g.kind(of) == api.NodeStar {
			of = g.kid(of, 0)
		}
		if g.kind(of) != api.NodeName {
			return
		}
		if bound, _ := w.bound(d.file, of); bound >= 0 && w.decls[bound].Kind == api.DeclType {
			d.Of = bound
		}
		return
	}
	spec := g.around(n, func(x int) bool { return g.kind(x) == api.NodeTypeSpec })
	d.Of = w.makes(d.file, g.tree.Nodes[g.kid(spec, 0)].First)
}

// known: 9.5.
func (w *told) known(file, token int) []int {
	var names []string
	for _, d := range w.decls {
		names = append(names, d.Name)
	}
	slices.Sort(names)
	var out []int
	for _, name := range slices.Compact(names) {
		if i := w.declAt(name, file, token); i >= 0 {
			out = append(out, i)
		}
	}
	return out
}
