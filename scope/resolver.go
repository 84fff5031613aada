package scope

import (
	"slices"

	"moniker/api"
	"moniker/modules"
	"moniker/tree"
)

// resolver makes Scopes: first all declarations are made, file by file, so that they are numbered by their places; then all names are bound. It keeps the fault that is to be told, whichever is met first.
type resolver struct {
	*Scopes
	sheets  []*sheet
	packs   []pack
	imports []imported
	behind  map[int]int // by the declaration of an import: its package
	labels  map[key]int
	fault   api.Fault
	turn    [5]int // of the fault
}

// sheet is a file as it is read.
type sheet struct {
	*file
	number, pack int
	text         string
	tokens       []api.Token
	tree         api.Tree
	fileScope    *scope
	own          []*scope // by node: the scope that it has; nil: none
}

// pack is a package as it is read.
type pack struct {
	name  string
	turn  int // its place in the order of packages
	scope *scope
	decl  int // -1: its first file is still to be read
}

// imported is the declaration of an import, and the token at which its faults stand.
type imported struct {
	decl int
	at   api.Place
}

func newResolver(p *modules.Program) *resolver {
	r := &resolver{Scopes: &Scopes{program: p, names: map[key]binding{}}, behind: map[int]int{}, labels: map[key]int{}}
	around := &scope{}
	for i, name := range universe {
		r.decls = append(r.decls, api.Decl{Kind: api.DeclUniverse, Name: name, Pack: -1, Of: -1, At: api.Place{File: -1}})
		r.bind(name, around, binding{i, everywhere()})
	}
	for _, k := range p.Packs() {
		r.packs = append(r.packs, pack{name: k.Name, scope: &scope{around: around}, decl: -1})
	}
	for i, number := range p.Order() {
		r.packs[number].turn = i
	}
	all := p.Files()
	r.files = make([]file, len(all))
	for i, f := range all {
		s := &sheet{file: &r.files[i], number: i, pack: p.Pack(i), text: f.Text, tokens: p.Tokens(i), tree: p.Tree(i)}
		s.own = make([]*scope, len(s.tree.Nodes))
		for _, t := range s.tokens {
			isToken := t.Kind != api.TokBlanks && t.Kind != api.TokNote
			s.pieces = append(s.pieces, piece{isToken, -1, -1})
		}
		s.fileScope = &scope{around: r.packs[s.pack].scope, run: run{0, len(s.tokens)}}
		s.scopes = append(s.scopes, s.fileScope)
		r.sheets = append(r.sheets, s)
	}
	return r
}

// bind puts a name into a scope.
func (r *resolver) bind(name string, in *scope, b binding) {
	r.names[key{in, name}] = b
	in.names = append(in.names, name)
}

// Faults of what packages and files declare are told ahead of all others of the package.
const (
	outside = iota
	within
)

// ranks are the faults in the order in which they are told of one byte.
var ranks = []api.Errno{api.ErrTwice, api.ErrSpecial, api.ErrNew, api.ErrUnknown, api.ErrUse}

// tell keeps a fault, if it is told ahead of all that were met.
func (r *resolver) tell(why api.Errno, where int, at api.Place) {
	s := r.sheets[at.File]
	f := api.Fault{Why: why, File: at.File, At: s.tokens[at.Token].From}
	turn := [5]int{r.packs[s.pack].turn, where, f.File, f.At, slices.Index(ranks, why)}
	if r.fault.Why == api.OK || slices.Compare(turn[:], r.turn[:]) < 0 {
		r.fault, r.turn = f, turn
	}
}

// compareImports looks for imports that are named as what their package declares.
func (r *resolver) compareImports() {
	for _, i := range r.imports {
		around := r.packs[r.decls[i.decl].Pack].scope
		if _, ok := r.names[key{around, r.decls[i.decl].Name}]; ok {
			r.tell(api.ErrTwice, outside, i.at)
		}
	}
}

func (s *sheet) kind(n int) api.NodeKind { return s.tree.Nodes[n].Kind }

func (s *sheet) run(n int) run { return run{s.tree.Nodes[n].First, s.tree.Nodes[n].End} }

// first is the number of a node's first token.
func (s *sheet) first(n int) int { return s.tree.Nodes[n].First }

func (s *sheet) kids(n int) []int { return tree.Kids(s.tree, n) }

// word is what is written at a token.
func (s *sheet) word(token int) string {
	t := s.tokens[token]
	return s.text[t.From:t.To]
}

func (s *sheet) at(token int) api.Place { return api.Place{File: s.number, Token: token} }
