package check

import (
	"errors"
	"strconv"

	"moniker/api"
	"moniker/modules"
	"moniker/scope"
	"moniker/tree"
	"moniker/types"
)

// checker looks a program through.
type checker struct {
	*Checks
	p         *modules.Program
	s         *scope.Scopes
	t         *types.Table
	packs     []api.Pack
	order     []int
	sheets    []*sheet
	things    []operand         // by a declaration: what a variable, constant or function is
	owners    []*owner          // by a declaration: where a package-level constant or variable is given its value
	starred   []bool            // by a declaration: a method whose receiver has a *
	bodies    []spot            // by a declaration: the Block of a function or method
	clauses   map[int][]clause  // by the declaration of a Match's Name: its types
	values    map[spot]operand  // what the expressions of ConstSpecs and VarSpecs are
	functions map[string]native // the universe's
	answers   map[question]int
	queue     []literal
	fault     api.Fault // the first one of the package that is looked at
}

// sheet is a file.
type sheet struct {
	number, pack int
	text         string
	tokens       []api.Token
	tree         api.Tree
	isKey        []bool // by node: a Name that is the key of a struct's Composite
}

// clause is what a Match's Name is from a token on, up to another.
type clause struct {
	first, end, id int
}

// literal is a FuncLit whose Block is still to be looked at, and what iota is there.
type literal struct {
	in    *sheet
	node  int
	count int64
}

// refusal is the fault that a rule met: why, and at which token.
type refusal struct {
	why   api.Errno
	token int
}

func (r *refusal) Error() string {
	return "fault " + strconv.Itoa(int(r.why)) + " at token " + strconv.Itoa(r.token)
}

// Rules that hang on something with a fault, or without a type, give up with these, and tell nothing.
var (
	errWithin  = errors.New("a fault lies within")
	errUntyped = errors.New("a type is not known")
)

func newChecker(p *modules.Program, s *scope.Scopes, t *types.Table) *checker {
	decls := s.Decls()
	c := &checker{
		Checks: &Checks{table: t, decls: decls, known: map[spot]fact{}, found: map[api.Place]member{}},
		p:      p, s: s, t: t, packs: p.Packs(), order: p.Order(),
		things: make([]operand, len(decls)), owners: make([]*owner, len(decls)), starred: make([]bool, len(decls)), bodies: make([]spot, len(decls)),
		clauses: map[int][]clause{}, values: map[spot]operand{}, functions: natives(), answers: map[question]int{},
	}
	for d := range c.things {
		c.things[d].mode = isUntyped
	}
	for i, f := range p.Files() {
		h := &sheet{i, p.Pack(i), f.Text, p.Tokens(i), p.Tree(i), nil}
		h.isKey = make([]bool, len(h.tree.Nodes))
		c.sheets = append(c.sheets, h)
		c.markKeys(h)
		c.declare(h)
	}
	return c
}

func (h *sheet) kind(n int) api.NodeKind { return h.tree.Nodes[n].Kind }

func (h *sheet) kids(n int) []int { return tree.Kids(h.tree, n) }

func (h *sheet) first(n int) int { return h.tree.Nodes[n].First }

// end is the number of the token behind a node's tokens.
func (h *sheet) end(n int) int { return h.tree.Nodes[n].End }

// behind is the number of the node behind a node and all within it.
func (h *sheet) behind(n int) int { return n + h.tree.Nodes[n].Size }

func (h *sheet) at(n int) api.Place { return api.Place{File: h.number, Token: h.first(n)} }

func (h *sheet) spot(n int) spot { return spot{h.number, n} }

// word is the spelling of a Name.
func (h *sheet) word(n int) string {
	t := h.tokens[h.first(n)]
	return h.text[t.From:t.To]
}

func (h *sheet) isBlank(n int) bool { return h.kind(n) == api.NodeName && h.word(n) == "_" }

// markBehind is the token behind a node.
func (h *sheet) markBehind(n int) int {
	k := h.end(n)
	for h.tokens[k].Kind == api.TokBlanks || h.tokens[k].Kind == api.TokNote {
		k++
	}
	return k
}

// refuse is a fault at a node.
func (h *sheet) refuse(why api.Errno, n int) error { return &refusal{why, h.first(n)} }

// declarations are the nodes of what a file declares.
func (h *sheet) declarations() []int { return h.kids(h.kids(0)[2]) }

// markKeys finds the Names that are keys of structs' Composites, and no expressions.
func (c *checker) markKeys(h *sheet) {
	for n := range h.tree.Nodes {
		if h.kind(n) != api.NodeComposite {
			continue
		}
		kids := h.kids(n)
		if c.t.Form(c.t.Written(h.number, kids[0])) != api.NodeStruct {
			continue
		}
		for _, e := range h.kids(kids[1]) {
			if h.kind(e) == api.NodePair && h.kind(e+1) == api.NodeName {
				h.isKey[e+1] = true
			}
		}
	}
}

// declare notes what a file declares at package level, and which methods are those of a *.
func (c *checker) declare(h *sheet) {
	r := reader{checker: c, sheet: h}
	for _, n := range h.declarations() {
		switch kids := h.kids(n); h.kind(n) {
		case api.NodeConst:
			for _, x := range r.constSpecs(n) {
				c.own(h, x.names, x, nil)
			}
		case api.NodeVar:
			for _, spec := range kids {
				x := r.varSpec(spec)
				c.own(h, x.names, nil, x)
			}
		case api.NodeFunc:
			c.declareFunc(h, kids)
		}
	}
}

func (c *checker) declareFunc(h *sheet, kids []int) {
	d := c.s.Makes(h.at(kids[1]))
	if d < 0 {
		return
	}
	c.bodies[d] = h.spot(kids[3])
	if h.kind(kids[0]) == api.NodeRecv {
		c.starred[d] = h.kind(h.kids(kids[0])[1]) == api.NodeStar
		return
	}
	c.things[d] = operand{mode: isValue, id: c.t.Func(c.signature(h, kids[2]))}
}

// signature are the types of a Sig's parameters and results.
func (c *checker) signature(h *sheet, sig int) (params, results []int) {
	kids := h.kids(sig)
	for _, param := range h.kids(kids[0]) {
		parts := h.kids(param)
		for range h.kids(parts[0]) {
			params = append(params, c.t.Written(h.number, parts[1]))
		}
	}
	for _, n := range h.kids(kids[1]) {
		results = append(results, c.t.Written(h.number, n))
	}
	return params, results
}

// judge is the first fault of a package by the rules of expressions and statements, behind what needs itself by name.
func (c *checker) judge(pack int) api.Fault {
	if f := c.findNamedCycle(pack); f.Why != api.OK {
		return f
	}
	for _, file := range c.packs[pack].Files {
		r := reader{checker: c, sheet: c.sheets[file]}
		for _, n := range r.declarations() {
			switch kids := r.kids(n); r.kind(n) {
			case api.NodeConst, api.NodeVar:
				r.specs(n)
			case api.NodeFunc:
				r.receiver(kids[0])
				r.function(kids[2], kids[3])
			}
		}
	}
	for len(c.queue) > 0 {
		x := c.queue[0]
		c.queue = c.queue[1:]
		kids := x.in.kids(x.node)
		reader{checker: c, sheet: x.in, count: x.count}.function(kids[0], kids[1])
	}
	return c.fault
}

// tell keeps a fault, if it stands ahead of all that were met in its package.
func (c *checker) tell(h *sheet, f *refusal) {
	at := h.tokens[f.token].From
	if c.fault.Why == api.OK || h.number < c.fault.File || h.number == c.fault.File && at < c.fault.At {
		c.fault = api.Fault{Why: f.why, File: h.number, At: at}
	}
}
