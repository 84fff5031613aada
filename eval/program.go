package eval

import (
	"moniker/api"
	"moniker/check"
	"moniker/modules"
	"moniker/scope"
	"moniker/tree"
	"moniker/xref"
)

// program is what a run asks of a whole program, and what has been made of it.
type program struct {
	*kinds
	modules   *modules.Program
	scopes    *scope.Scopes
	checks    *check.Checks
	decls     []api.Decl
	numbers   map[int]int      // by the declaration of a package variable: its cell's number
	variables []*kind          // by that number: its type
	routines  map[int]*routine // by the declaration of a function or method
	inits     [][]*routine     // by package
	main      *routine
	units     map[api.Place]unit // by the place that tells them
	fields    map[int]int        // by the declaration of a field: its number
	methods   map[asked]method
}

// unit is what is made at once of package variables: the Names, and the expressions, if there are some.
type unit struct {
	page
	names, exprs []int
}

func newProgram(w *xref.Whole) *program {
	p := &program{
		kinds: newKinds(w.Table()), modules: w.Program(), scopes: w.Scopes(), checks: w.Checks(), decls: w.Scopes().Decls(),
		numbers: map[int]int{}, routines: map[int]*routine{}, units: map[api.Place]unit{}, fields: map[int]int{}, methods: map[asked]method{},
	}
	packs := p.modules.Packs()
	p.inits = make([][]*routine, len(packs))
	for number, pack := range packs {
		for _, file := range pack.Files {
			p.declare(number, page{p, file, p.modules.Tree(file)})
		}
	}
	return p
}

// declare notes what a file declares at package level.
func (p *program) declare(pack int, g page) {
	for _, n := range g.kids(g.kids(0)[2]) {
		switch g.kind(n) {
		case api.NodeVar:
			for _, spec := range g.kids(n) {
				p.declareVariables(g, spec)
			}
		case api.NodeFunc:
			p.declareFunc(pack, g, n)
		}
	}
}

func (p *program) declareVariables(g page, spec int) {
	kids := g.kids(spec)
	names, exprs := g.kids(kids[0]), g.kids(kids[2])
	for i, n := range names {
		if d := g.makes(n); d >= 0 {
			p.numbers[d] = len(p.variables)
			p.variables = append(p.variables, g.typeOf(n))
		}
		if len(exprs) == len(names) {
			p.units[g.at(n)] = unit{g, names[i : i+1], exprs[i : i+1]}
		}
	}
	if len(exprs) != len(names) {
		p.units[g.at(names[0])] = unit{g, names, exprs}
	}
}

func (p *program) declareFunc(pack int, g page, n int) {
	d := g.makes(g.kids(n)[1])
	if d < 0 {
		return
	}
	t := &routine{coder: newCoder(g), node: n}
	p.routines[d] = t
	if p.decls[d].Kind != api.DeclFunc {
		return
	}
	switch p.decls[d].Name {
	case "init":
		p.inits[pack] = append(p.inits[pack], t)
	case "main":
		p.main = t
	}
}

// fieldNumber is the number of a field among those of its struct type.
func (p *program) fieldNumber(decl int) int {
	if _, ok := p.fields[decl]; !ok {
		_, all := p.table.Parts(p.table.Named(p.decls[decl].Of))
		for i, d := range all {
			p.fields[d] = i
		}
	}
	return p.fields[decl]
}

// page is a file of a program.
type page struct {
	*program
	file int
	tree api.Tree
}

func (g page) kind(n int) api.NodeKind { return g.tree.Nodes[n].Kind }

func (g page) kids(n int) []int { return tree.Kids(g.tree, n) }

// at is the place of a node's first token: there it takes, and its faults are.
func (g page) at(n int) api.Place {
	return api.Place{File: g.file, Token: g.tree.Nodes[n].First}
}

// bound is the declaration that a Name is bound to, makes the one that it makes; -1: none.
func (g page) bound(n int) int { return g.scopes.Bound(g.at(n)) }

func (g page) makes(n int) int { return g.scopes.Makes(g.at(n)) }

func (g page) isBlank(n int) bool {
	return g.kind(n) == api.NodeName && g.modules.Word(g.at(n)) == "_"
}

// markBehind is the kind of the token behind a node.
func (g page) markBehind(n int) api.Kind {
	for k := g.tree.Nodes[n].End; ; k++ {
		t, ok := g.modules.Token(api.Place{File: g.file, Token: k})
		if !ok || t.Kind != api.TokBlanks && t.Kind != api.TokNote {
			return t.Kind
		}
	}
}

// written is the kind of a type that stands at a node; nil: none does.
func (g page) written(n int) *kind {
	id := g.table.Written(g.file, n)
	if id < 0 {
		return nil
	}
	return g.typed(id)
}

// typeOf is the kind of the type of an expression, or of what a Name declares; nil: it has none.
func (g page) typeOf(n int) *kind {
	id := g.checks.Type(g.file, n)
	if id < 0 {
		return nil
	}
	return g.typed(id)
}
