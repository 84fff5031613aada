package format_test

import (
	"slices"
	"strings"
	"testing"

	"moniker/api"
	"moniker/edits"
	"moniker/format"
	"moniker/lexer"
	"moniker/parser"
	"moniker/tree"
)

// page is a source looked at by the chapter's words, without a thought of how long it takes.
type page struct {
	text string
	l    []api.Token
	t    api.Tree
	own  []int  // of a token the node whose own it is; else -1
	kept []int  // the kept pieces
	up   []int  // of each node the one whose kid it is
	item []bool // of each node
}

func newPage(text string) *page {
	l, t, _ := parser.File(text)
	p := &page{text: text, l: l, t: t}
	for range l {
		p.own = append(p.own, -1)
	}
	for n := range t.Nodes {
		p.up = append(p.up, tree.Up(t, n))
		for _, i := range tree.Own(l, t, n) {
			p.own[i] = n
		}
	}
	for n := range t.Nodes {
		p.item = append(p.item, p.isItem(n))
	}
	for i, x := range l {
		if x.Kind == api.TokBlanks || x.Kind == api.TokAuto || x.Kind == api.TokSemi && !p.ofHeader(i) && !p.ofEmpty(i) {
			continue
		}
		p.kept = append(p.kept, i)
	}
	return p
}

// is tells whether a piece is an own token of that kind of a node of one of these kinds.
func (p *page) is(i int, k api.Kind, of ...api.NodeKind) bool {
	return i >= 0 && i < len(p.l) && p.l[i].Kind == k && slices.Contains(of, p.t.Nodes[p.own[i]].Kind)
}

func (p *page) ofHeader(i int) bool {
	of := []api.NodeKind{api.NodeFor, api.NodeIf, api.NodeSwitch, api.NodeMatch}
	return p.is(i, api.TokSemi, of...) || p.is(i, api.TokAuto, of...)
}

func (p *page) ofEmpty(i int) bool {
	return slices.ContainsFunc(p.t.Nodes, func(n api.Node) bool { return n.Kind == api.NodeEmpty && n.First == i })
}

func (p *page) kind(n int) api.NodeKind {
	if n < 0 {
		return api.NodeCount
	}
	return p.t.Nodes[n].Kind
}

func (p *page) above(n int) int {
	if n < 0 {
		return -1
	}
	return p.up[n]
}

func (p *page) isItem(n int) bool {
	up := p.above(n)
	switch p.kind(n) {
	case api.NodeField, api.NodeEmbed, api.NodeMethod, api.NodeCase, api.NodeDefault:
		return true
	case api.NodeImportSpec, api.NodeConstSpec, api.NodeVarSpec, api.NodeTypeSpec:
		return slices.ContainsFunc(tree.Own(p.l, p.t, up), func(i int) bool { return p.l[i].Kind == api.TokOpen })
	case api.NodeImport, api.NodeConst, api.NodeVar, api.NodeTypes, api.NodeFunc:
		if p.kind(p.above(up)) == api.NodeFile {
			return true
		}
	}
	return p.kind(up) == api.NodeBlock
}

// around is the item in which a node stands, itself too; -1: the package clause.
func (p *page) around(n int) int {
	for n > 0 && !p.item[n] {
		n = p.above(n)
	}
	if n == 0 {
		return -1
	}
	return n
}

func (p *page) depth(item int) int {
	if item < 0 {
		return 0
	}
	up := p.above(item)
	switch {
	case p.kind(p.above(up)) == api.NodeFile:
		return 0
	case p.kind(item) == api.NodeCase || p.kind(item) == api.NodeDefault:
		return p.depth(p.around(up))
	}
	return p.depth(p.around(up)) + 1
}

// starts is the item whose first piece that is; -2: none; -1: the package clause.
func (p *page) starts(i int) int {
	if p.l[i].Kind == api.TokPackage {
		return -1
	}
	for n := range p.t.Nodes {
		if n > 0 && p.t.Nodes[n].First == i && p.item[n] {
			return n
		}
	}
	return -2
}

// standsIn is the innermost item that a piece is in.
func (p *page) standsIn(i int) int {
	item := -1
	for n, node := range p.t.Nodes {
		if n > 0 && node.First <= i && i < node.End && p.item[n] {
			item = n
		}
	}
	return item
}

var (
	braced = []api.NodeKind{api.NodeStruct, api.NodeInterface, api.NodeBlock, api.NodeSwitch, api.NodeMatch}
	groups = []api.NodeKind{api.NodeImport, api.NodeConst, api.NodeVar, api.NodeTypes}
)

func (p *page) opens(i int) bool {
	return p.is(i, api.TokBegin, braced...) || p.is(i, api.TokOpen, groups...)
}

func (p *page) shuts(i int) bool {
	return p.is(i, api.TokEnd, braced...) || p.is(i, api.TokClose, groups...)
}

func (p *page) note(i int) bool { return p.l[i].Kind == api.TokNote }

func (p *page) word(i int) string {
	if p.l[i].Kind == api.TokAuto {
		return ";"
	}
	w := p.text[p.l[i].From:p.l[i].To]
	if p.note(i) {
		return trimmed(w)
	}
	return w
}

func (p *page) feeds(a, b int) int {
	n := 0
	for i := a + 1; i < b; i++ {
		if p.l[i].Kind == api.TokBlanks {
			n += strings.Count(p.word(i), "\n")
		}
	}
	return n
}

// pieceDepth is the depth of a kept piece that begins a line.
func (p *page) pieceDepth(i int) int {
	if p.note(i) {
		return p.noteDepth(i)
	}
	if item := p.starts(i); item >= -1 {
		return p.depth(item)
	}
	if p.shuts(i) {
		return p.depth(p.standsIn(i))
	}
	return p.depth(p.standsIn(i)) + 1
}

func (p *page) noteDepth(i int) int {
	ahead := i
	for p.note(ahead) {
		at := slices.Index(p.kept, ahead)
		if at+1 == len(p.kept) {
			return 0
		}
		ahead = p.kept[at+1]
	}
	item := p.starts(ahead)
	switch {
	case item == -1:
		return 0
	case item >= 0 && p.kind(item) != api.NodeCase && p.kind(item) != api.NodeDefault:
		return p.depth(item)
	case item >= 0:
		return p.inChoice(p.above(p.above(item)), i)
	case p.is(ahead, api.TokEnd, api.NodeSwitch, api.NodeMatch):
		return p.inChoice(p.own[ahead], i)
	}
	return p.depth(p.standsIn(ahead)) + 1
}

// inChoice is the depth of a comment among the clauses of a Switch or Match.
func (p *page) inChoice(n, i int) int {
	kids := tree.Kids(p.t, n)
	depth := p.depth(p.around(n))
	if clauses := tree.Kids(p.t, kids[len(kids)-1]); len(clauses) > 0 && p.t.Nodes[clauses[0]].First < i {
		return depth + 1
	}
	return depth
}

func (p *page) breaks(a, b int) bool {
	switch {
	case p.note(b) && p.feeds(a, b) > 0:
		return true
	case strings.HasPrefix(p.word(a), "//"):
		return true
	case p.starts(b) >= -1:
		return true
	}
	return p.shuts(b) && !(p.opens(a) && p.own[a] == p.own[b])
}

// between is what F2 puts between two pieces that follow one another.
func (p *page) between(a, b int) string {
	for i := a + 1; i < b; i++ {
		if p.l[i].Kind == api.TokAuto && p.ofHeader(i) {
			return ";" + p.between(i, b)
		}
	}
	if !p.breaks(a, b) {
		return p.inLine(a, b)
	}
	out := "\n"
	if !p.shuts(b) && !p.opens(a) && p.feeds(a, b) >= 2 {
		out += "\n"
	}
	return out + strings.Repeat("\t", p.pieceDepth(b))
}

// inLine goes through the rows of F2's table.
func (p *page) inLine(a, b int) string {
	first := func(i int, of ...api.NodeKind) bool {
		return p.is(i, api.TokOpen, of...) && p.t.Nodes[p.own[i]].First == i
	}
	void := func(i int) bool { return p.kept[slices.Index(p.kept, i)+1] == p.t.Nodes[p.own[i]].End-1 }
	switch k, j := p.l[a].Kind, p.l[b].Kind; {
	case p.note(a) || p.note(b):
		return " "
	case p.opens(a) && p.shuts(b):
		return ""
	case slices.Contains([]string{",", ";", ")", "]", "...", "++", "--", ":"}, p.word(b)):
		return ""
	case k == api.TokOpen || k == api.TokOpenAt || k == api.TokDot || j == api.TokDot:
		return ""
	case p.is(a, api.TokBegin, api.NodeComposite) || p.is(b, api.TokEnd, api.NodeComposite):
		return ""
	case p.kind(p.own[a]) == api.NodeSign || p.kind(p.own[a]) == api.NodeStar:
		return p.behindSign(a, b)
	case p.is(a, api.TokColon, api.NodeSlice):
		return ""
	case p.is(b, api.TokOpen, api.NodeCall) || first(b, api.NodeSig, api.NodeShape):
		return ""
	case p.is(b, api.TokOpenAt, api.NodeIndex, api.NodeSlice, api.NodeMapOf) || p.is(b, api.TokBegin, api.NodeComposite):
		return ""
	case p.is(b, api.TokBegin, api.NodeStruct, api.NodeInterface) && void(b):
		return ""
	case p.is(a, api.TokCloseAt, api.NodeSliceOf, api.NodeMapOf):
		return ""
	}
	return " "
}

func (p *page) behindSign(a, b int) string {
	for k := api.TokAdd; k < api.KindCount && p.l[b].Kind >= api.TokAdd; k++ {
		if mark := lexer.Spell(k); len(mark) > len(p.word(a)) && strings.HasPrefix(p.word(a)+p.word(b), mark) {
			return " "
		}
	}
	return ""
}

func (p *page) format() string {
	out := p.word(p.kept[0])
	for n, b := range p.kept[1:] {
		out += p.between(p.kept[n], b) + p.word(b)
	}
	return out + "\n"
}

func (p *page) edits() []api.Edit {
	var out []api.Edit
	from := 0
	add := func(to int, s string) {
		if p.text[from:to] != s {
			out = append(out, api.Edit{From: from, To: to, Text: s})
		}
	}
	for n, b := range p.kept {
		between := ""
		if n > 0 {
			between = p.between(p.kept[n-1], b)
		}
		add(p.l[b].From, between)
		from = p.l[b].From + len(p.word(b))
	}
	add(len(p.text), "\n")
	return out
}

func (p *page) tight() string {
	var tokens []int
	for i, x := range p.l {
		if x.Kind != api.TokBlanks && x.Kind != api.TokNote {
			tokens = append(tokens, i)
		}
	}
	out, last := "", ""
	for n, i := range tokens {
		ends := n+1 == len(tokens) || p.l[tokens[n+1]].Kind == api.TokClose || p.l[tokens[n+1]].Kind == api.TokEnd
		if p.word(i) == ";" && ends && !slices.Contains(p.kept, i) {
			continue
		}
		w := p.word(i)
		l, _ := lexer.Scan(last + w)
		if last != "" && (len(l) < 2 || l[0].To != len(last) || l[1].To != len(last+w)) {
			out += " "
		}
		out, last = out+w, w
	}
	return out
}

// TestByWords: F2, F3, F5 of sources by chance, and what follows from them.
func TestByWords(t *testing.T) {
	for _, text := range sources(t, 1, 1500) {
		p := newPage(text)
		laid, fault := format.Format(text)
		if want := p.format(); laid != want || fault != (api.Fault{}) {
			t.Fatalf("F2: %q\n%q\nnot\n%q", text, laid, want)
		}
		close, fault := format.Tight(text)
		if want := p.tight(); close != want || fault != (api.Fault{}) {
			t.Fatalf("F3: %q\n%q\nnot\n%q", text, close, want)
		}
		list, fault := format.Edits(text)
		if want := p.edits(); !slices.Equal(list, want) || fault != (api.Fault{}) {
			t.Fatalf("F5: %q\n%v\nnot\n%v", text, list, want)
		}
		follows(t, text, laid, close, list)
	}
}

// follows asks for F6 to F8, and P16.
func follows(t *testing.T, text, laid, close string, list []api.Edit) {
	t.Helper()
	if again, fault := format.Format(laid); again != laid || fault != (api.Fault{}) {
		t.Fatalf("F6: %q\n%q\nonce more\n%q, %v", text, laid, again, fault)
	}
	if l, fault := format.Edits(laid); len(l) != 0 || fault != (api.Fault{}) {
		t.Fatalf("F5: %q has edits %v", laid, l)
	}
	if !format.Alike(text, laid) || !format.Alike(laid, text) || !format.Alike(text, close) {
		t.Fatalf("F6: not alike: %q\n%q\n%q", text, laid, close)
	}
	if a, b := notesOf(t, text), notesOf(t, laid); !slices.Equal(a, b) {
		t.Fatalf("F6: comments %q, not %q", b, a)
	}
	if s, e := edits.Apply(text, list); s != laid || e != api.OK {
		t.Fatalf("F7: %q\n%v\n%q, %d", text, list, s, e)
	}
	for _, s := range []string{close, laid} {
		if again, _ := format.Tight(s); again != close {
			t.Fatalf("F8: %q\n%q\nof\n%q", close, again, s)
		}
	}
}
