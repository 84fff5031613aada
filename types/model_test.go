package types_test

import (
	"slices"
	"strconv"
	"strings"

	"moniker/api"
	"moniker/lexer"
	"moniker/modules"
	"moniker/scope"
	"moniker/tree"
)

// told is what 0.6 and chapter 10 say of a program, found out from the trees each time it is asked, types being texts.
type told struct {
	p      *modules.Program
	s      *scope.Scopes
	decls  []api.Decl
	pages  []wordPage
	specs  []wordSpec
	texts  []string       // by declaration: of a type its text
	byText map[string]int // the TypeSpec of a text
	faults []wordFault
}

// wordPage is a file: its tree with the way up.
type wordPage struct {
	number int
	tree   api.Tree
	tokens []api.Token
	up     []int
	place  []int
}

// wordSpec is a TypeSpec: its file and node, its declaration (-1: blank).
type wordSpec struct{ file, node, decl int }

type wordFault struct {
	sort  [5]int
	fault api.Fault
}

func wordsOf(p *modules.Program, s *scope.Scopes) *told {
	w := &told{p: p, s: s, decls: s.Decls()}
	for i := range p.Files() {
		g := wordPage{number: i, tree: p.Tree(i), tokens: p.Tokens(i)}
		g.up, g.place = make([]int, len(g.tree.Nodes)), make([]int, len(g.tree.Nodes))
		for n := range g.tree.Nodes {
			for j, k := range tree.Kids(g.tree, n) {
				g.up[k], g.place[k] = n, j
			}
			if g.tree.Nodes[n].Kind == api.NodeTypeSpec {
				w.specs = append(w.specs, wordSpec{i, n, s.Makes(api.Place{File: i, Token: g.tree.Nodes[n+1].First})})
			}
		}
		g.up[0] = -1
		w.pages = append(w.pages, g)
	}
	for d := range w.decls {
		w.texts = append(w.texts, w.shownFirst(d))
	}
	w.byText = map[string]int{}
	for i, s := range w.specs {
		w.byText[w.shown(s.decl)] = i
	}
	delete(w.byText, "")
	return w
}

func (g wordPage) kind(n int) api.NodeKind {
	if n < 0 {
		return api.NodeCount
	}
	return g.tree.Nodes[n].Kind
}

func (g wordPage) kid(n, i int) int { return tree.Kid(g.tree, n, i) }

func (g wordPage) kids(n int) []int { return tree.Kids(g.tree, n) }

func (g wordPage) at(n int) api.Place {
	return api.Place{File: g.number, Token: g.tree.Nodes[n].First}
}

// specOf is the TypeSpec of a declared type's text, or nil.
func (w *told) specOf(text string) *wordSpec {
	if i, ok := w.byText[text]; ok {
		return &w.specs[i]
	}
	return nil
}

// shown is the text of a type's declaration; "" of every other (10.4).
func (w *told) shown(decl int) string {
	if decl < 0 {
		return ""
	}
	return w.texts[decl]
}

func (w *told) shownFirst(decl int) string {
	d := w.decls[decl]
	switch {
	case decl < 3:
		return d.Name
	case d.Kind != api.DeclType:
		return ""
	}
	out := lexer.Quote(w.p.Packs()[d.Pack].Path) + "." + d.Name
	g := w.pages[d.At.File]
	for n := range g.tree.Nodes {
		if g.kind(n) == api.NodeBlock && g.tree.Nodes[n].First < d.At.Token && d.At.Token < g.tree.Nodes[n].End {
			return out + "#" + strconv.Itoa(decl)
		}
	}
	return out
}

// text is the type of a node; "": none.
func (w *told) text(g wordPage, n int) string {
	part := func(i int) string { return w.text(g, g.kid(n, i)) }
	wrap := func(ahead, of string) string {
		if of == "" {
			return ""
		}
		return ahead + of
	}
	switch g.kind(n) {
	case api.NodeName:
		return w.shown(w.s.Bound(g.at(n)))
	case api.NodeSelect:
		return part(1)
	case api.NodeParen:
		return part(0)
	case api.NodeStar:
		return wrap("*", part(0))
	case api.NodeSliceOf:
		return wrap("[]", part(0))
	case api.NodeMapOf:
		if part(0) == "" {
			return ""
		}
		return wrap("map["+part(0)+"]", part(1))
	case api.NodeFuncOf:
		return w.shapeText(g, g.kid(n, 0))
	case api.NodeStruct, api.NodeInterface:
		return w.text(g, g.kid(g.up[n], 0))
	}
	return ""
}

// funcText is a func type's; "", if a part is none.
func funcText(params, results []string) string {
	if slices.Contains(params, "") || slices.Contains(results, "") {
		return ""
	}
	out := "func(" + strings.Join(params, ", ") + ")"
	switch len(results) {
	case 0:
		return out
	case 1:
		return out + " " + results[0]
	}
	return out + " (" + strings.Join(results, ", ") + ")"
}

func (w *told) listTexts(g wordPage, list int) []string {
	var out []string
	for _, k := range g.kids(list) {
		out = append(out, w.text(g, k))
	}
	return out
}

func (w *told) shapeText(g wordPage, n int) string {
	return funcText(w.listTexts(g, g.kid(n, 0)), w.listTexts(g, g.kid(n, 1)))
}

func (w *told) sigText(g wordPage, n int) string {
	var params []string
	for _, param := range g.kids(g.kid(n, 0)) {
		params = append(params, slices.Repeat([]string{w.text(g, g.kid(param, 1))}, len(g.kids(g.kid(param, 0))))...)
	}
	return funcText(params, w.listTexts(g, g.kid(n, 1)))
}

// right is the node of a TypeSpec's right side.
func (w *told) right(s wordSpec) (wordPage, int) {
	g := w.pages[s.file]
	return g, g.kid(s.node, 1)
}

func (w *told) isBody(s wordSpec, kind api.NodeKind) bool {
	g, n := w.right(s)
	return g.kind(n) == kind
}

// under is the underlying type; "": none.
func (w *told) under(text string) string {
	s := w.specOf(text)
	if s == nil || w.isBody(*s, api.NodeStruct) || w.isBody(*s, api.NodeInterface) {
		return text
	}
	g, n := w.right(*s)
	return w.under(w.text(g, n))
}

// isBeneath tells whether the type beneath is a Struct, or an Interface.
func (w *told) isBeneath(text string, kind api.NodeKind) bool {
	s := w.specOf(w.under(text))
	return s != nil && w.isBody(*s, kind)
}

// isFace tells whether a type is an interface type itself.
func (w *told) isFace(text string) bool {
	s := w.specOf(text)
	return s != nil && w.isBody(*s, api.NodeInterface)
}

func isPointer(text string) bool { return strings.HasPrefix(text, "*") }

// needs are the TypeSpecs that one needs, in one of the two ways.
func (w *told) needs(s wordSpec, bare bool) []int {
	g, n := w.right(s)
	isBody := g.kind(n) == api.NodeStruct || g.kind(n) == api.NodeInterface
	var out []int
	add := func(k int) {
		for i, other := range w.specs {
			if x := w.text(g, k); x != "" && other.decl >= 0 && x == w.shown(other.decl) {
				out = append(out, i)
			}
		}
	}
	switch {
	case !isBody && bare:
		add(n)
	case !isBody:
		for k := range tree.Walk(g.tree, n, nil) {
			add(k)
		}
	case bare:
		for _, k := range g.kids(n) {
			if g.kind(k) == api.NodeField {
				add(g.kid(k, 1))
			}
			if g.kind(k) == api.NodeEmbed {
				add(g.kid(k, 0))
			}
		}
	}
	return out
}

// comesBack tells whether a TypeSpec needs itself.
func (w *told) comesBack(i int, bare bool) bool {
	seen := make([]bool, len(w.specs))
	row := w.needs(w.specs[i], bare)
	for len(row) > 0 {
		x := row[0]
		row = row[1:]
		if x == i {
			return true
		}
		if !seen[x] {
			seen[x] = true
			row = append(row, w.needs(w.specs[x], bare)...)
		}
	}
	return false
}

func (w *told) fault(why api.Errno, phase int, at api.Place) {
	order := []api.Errno{api.ErrCycle, api.ErrType, api.ErrForm, api.ErrKey, api.ErrEmbed, api.ErrRecv, api.ErrTwice}
	from := w.pages[at.File].tokens[at.Token].From
	w.faults = append(w.faults, wordFault{
		[5]int{slices.Index(w.p.Order(), w.p.Pack(at.File)), phase, at.File, from, slices.Index(order, why)},
		api.Fault{Why: why, File: at.File, At: from},
	})
}

// first is the first fault of 10.1; once there is a cycle, no more is asked of that package and those behind it.
func (w *told) first() api.Fault {
	for _, pack := range w.p.Order() {
		for i, s := range w.specs {
			if w.p.Pack(s.file) == pack && (w.comesBack(i, true) || w.comesBack(i, false)) {
				w.fault(api.ErrCycle, 0, w.pages[s.file].at(s.node+1))
			}
		}
		if len(w.faults) == 0 {
			for _, i := range w.p.Packs()[pack].Files {
				w.judge(w.pages[i])
			}
			w.twice(pack)
		}
		if len(w.faults) > 0 {
			slices.SortFunc(w.faults, func(a, b wordFault) int { return slices.Compare(a.sort[:], b.sort[:]) })
			return w.faults[0].fault
		}
	}
	return api.Fault{}
}

// inPlace tells whether a node stands in a type's place (10.2).
func (w *told) inPlace(g wordPage, n int) bool {
	up, place := g.up[n], g.place[n]
	switch g.kind(up) {
	case api.NodeVarSpec, api.NodeConstSpec, api.NodeParam, api.NodeField, api.NodeTypeSpec, api.NodeAssert, api.NodeRecv:
		return place == 1
	case api.NodeComposite:
		return place == 0
	case api.NodeSliceOf, api.NodeMapOf, api.NodeEmbed:
		return true
	case api.NodeStar, api.NodeParen:
		return w.inPlace(g, up)
	case api.NodeList:
		top := g.up[up]
		switch g.kind(top) {
		case api.NodeShape:
			return true
		case api.NodeSig:
			return g.place[up] == 1
		case api.NodeCase:
			isNil := g.kind(n) == api.NodeName && w.s.Bound(g.at(n)) == 6
			return g.kind(g.up[g.up[top]]) == api.NodeMatch && !isNil
		}
	}
	return false
}

// judge looks at each node of a file for ErrType, ErrForm, ErrKey, ErrEmbed, ErrRecv.
func (w *told) judge(g wordPage) {
	for n, node := range g.tree.Nodes {
		kid, text := -1, ""
		if kids := g.kids(n); len(kids) > 0 {
			kid = kids[0]
			text = w.text(g, kid)
		}
		switch node.Kind {
		case api.NodeName:
			if w.inPlace(g, n) && w.text(g, n) == "" {
				w.fault(api.ErrType, 1, g.at(n))
			}
		case api.NodeSelect:
			if w.inPlace(g, n) && w.text(g, n) == "" {
				w.fault(api.ErrType, 1, g.at(g.kid(n, 1)))
			}
		case api.NodeTypeSpec:
			right := g.kid(n, 1)
			if x := w.text(g, right); g.kind(right) != api.NodeStruct && g.kind(right) != api.NodeInterface && (w.isBeneath(x, api.NodeStruct) || w.isBeneath(x, api.NodeInterface)) {
				w.fault(api.ErrForm, 1, g.at(right))
			}
		case api.NodeMapOf:
			if text != "" && !slices.Contains([]string{"bool", "int", "string"}, w.under(text)) {
				w.fault(api.ErrKey, 1, g.at(kid))
			}
		case api.NodeEmbed:
			if text != "" && !w.mayEmbed(g.kind(g.up[n]), text) {
				w.fault(api.ErrEmbed, 1, g.at(kid))
			}
		case api.NodeRecv:
			if of := g.kid(n, 1); w.text(g, of) != "" && !w.mayReceive(g, of) {
				w.fault(api.ErrRecv, 1, g.at(of))
			}
		}
	}
}

func (w *told) mayEmbed(in api.NodeKind, text string) bool {
	if in == api.NodeInterface {
		return w.isFace(text)
	}
	of := strings.TrimPrefix(text, "*")
	if w.specOf(of) == nil || isPointer(w.under(of)) {
		return false
	}
	return of == text || !w.isBeneath(of, api.NodeInterface)
}

func (w *told) mayReceive(g wordPage, n int) bool {
	if g.kind(n) == api.NodeStar {
		n = g.kid(n, 0)
	}
	text := w.text(g, n)
	s := w.specOf(text)
	return g.kind(n) == api.NodeName && s != nil && w.p.Pack(s.file) == w.p.Pack(g.number) && !w.isFace(text) && !isPointer(w.under(text))
}

// own are the own members of a TypeSpec, in the order of declarations.
func (w *told) own(s wordSpec) []int {
	g := w.pages[s.file]
	node := g.tree.Nodes[s.node]
	var out []int
	for i, d := range w.decls {
		isPart := d.Kind == api.DeclField || d.Kind == api.DeclEmbed || d.Kind == api.DeclShape
		if isPart && d.At.File == s.file && node.First <= d.At.Token && d.At.Token < node.End {
			out = append(out, i)
		}
		if d.Kind == api.DeclMethod && d.Of == s.decl && s.decl >= 0 && w.mayReceive(w.pages[d.At.File], w.receiver(i)) {
			out = append(out, i)
		}
	}
	return out
}

// nameNode is the Name that makes a declaration.
func (w *told) nameNode(decl int) (wordPage, int) {
	at := w.decls[decl].At
	g := w.pages[at.File]
	return g, slices.IndexFunc(g.tree.Nodes, func(n api.Node) bool { return n.Kind == api.NodeName && n.First == at.Token })
}

// receiver is the node of a method's receiver's type.
func (w *told) receiver(decl int) int {
	g, n := w.nameNode(decl)
	return g.kid(g.kid(g.up[n], 0), 1)
}

// of is the type of a member (10.8).
func (w *told) of(decl int) string {
	g, n := w.nameNode(decl)
	switch w.decls[decl].Kind {
	case api.DeclField:
		return w.text(g, g.kid(g.up[g.up[n]], 1))
	case api.DeclMethod:
		return w.sigText(g, g.kid(g.up[n], 2))
	case api.DeclShape:
		return w.shapeText(g, g.kid(g.up[n], 1))
	case api.DeclEmbed:
		for g.kind(g.up[n]) != api.NodeEmbed {
			n = g.up[n]
		}
		return w.text(g, n)
	}
	return ""
}

// starred tells whether a method has a receiver with a *, or a field is embedded with one.
func (w *told) starred(decl int) bool {
	if w.decls[decl].Kind == api.DeclMethod {
		g, _ := w.nameNode(decl)
		return g.kind(w.receiver(decl)) == api.NodeStar
	}
	return isPointer(w.of(decl))
}

// twice looks for two own members of one name, and for an interface's two methods of one name and two types.
func (w *told) twice(pack int) {
	for _, s := range w.specs {
		if w.p.Pack(s.file) != pack {
			continue
		}
		own := w.own(s)
		for i, d := range own {
			if slices.ContainsFunc(own[:i], func(e int) bool { return w.decls[e].Name == w.decls[d].Name }) {
				w.fault(api.ErrTwice, 1, w.decls[d].At)
			}
		}
		g, n := w.right(s)
		if g.kind(n) != api.NodeInterface {
			continue
		}
		var all []int
		for _, k := range g.kids(n) {
			var more []int
			if d := w.s.Makes(g.at(k)); g.kind(k) == api.NodeMethod && d >= 0 {
				more = []int{d}
			}
			if g.kind(k) == api.NodeEmbed {
				more = w.faceMethods(w.text(g, g.kid(k, 0)))
			}
			for _, d := range more {
				all = append(all, d)
				if slices.ContainsFunc(all, func(e int) bool { return w.decls[e].Name == w.decls[d].Name && w.of(e) != w.of(d) }) {
					w.fault(api.ErrTwice, 1, g.at(k))
				}
			}
		}
	}
}

// faceMethods are the methods of an interface type, its own and those that it embeds, rising; none of another type.
func (w *told) faceMethods(text string) []int {
	s := w.specOf(text)
	if s == nil || !w.isBody(*s, api.NodeInterface) {
		return nil
	}
	out := w.own(*s)
	g, n := w.right(*s)
	for _, k := range g.kids(n) {
		if g.kind(k) == api.NodeEmbed {
			out = append(out, w.faceMethods(w.text(g, g.kid(k, 0)))...)
		}
	}
	slices.Sort(out)
	return slices.Compact(out)
}
