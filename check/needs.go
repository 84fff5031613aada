package check

import (
	"slices"

	"moniker/api"
	"moniker/flow"
	"moniker/graphs"
)

// web is what things need: declarations, numbered in their order from 0 on.
type web struct {
	decls  []int
	number map[int]int // by declaration
	needs  [][2]int
}

// webOf is the web of those declarations of a package that are asked for; what each needs is told by a function.
func (c *checker) webOf(pack int, isOne func(decl int) bool, needs func(decl int) []int) *web {
	w := &web{number: map[int]int{}}
	for decl, d := range c.decls {
		if d.Pack == pack && isOne(decl) {
			w.number[decl] = len(w.decls)
			w.decls = append(w.decls, decl)
		}
	}
	for i, decl := range w.decls {
		for _, d := range needs(decl) {
			if k, ok := w.number[d]; ok {
				w.needs = append(w.needs, [2]int{i, k})
			}
		}
	}
	return w
}

// exprs are the expressions on which it hangs what a constant or variable is.
func (o *owner) exprs() []int {
	var all []int
	switch {
	case o.on != nil && len(o.on.exprs) != len(o.on.names):
		return o.on.exprs
	case o.on != nil:
		all = o.on.exprs
	case o.of.source != nil:
		all = o.of.exprs
	}
	if o.number >= len(all) {
		return nil
	}
	return all[o.number : o.number+1]
}

// named are the declarations that the Names in nodes are bound to; in whole ones FuncLits count too, and the members of Selects.
func (c *checker) named(h *sheet, nodes []int, isWhole bool) []int {
	var out []int
	for _, node := range nodes {
		for n := node; n < h.behind(node); n++ {
			if h.kind(n) == api.NodeFuncLit && !isWhole {
				n = h.behind(n) - 1
				continue
			}
			if h.kind(n) != api.NodeName || h.isKey[n] {
				continue
			}
			if d := c.s.Bound(h.at(n)); d >= 0 {
				out = append(out, d)
			} else if m, ok := c.found[h.at(n)]; ok && isWhole {
				out = append(out, m.decl)
			}
		}
	}
	return out
}

// findNamedCycle tells the first constant or variable of a package that needs itself by name alone.
func (c *checker) findNamedCycle(pack int) api.Fault {
	isOne := func(decl int) bool { return c.owners[decl] != nil }
	w := c.webOf(pack, isOne, func(decl int) []int {
		o := c.owners[decl]
		return c.named(o.in, o.exprs(), false)
	})
	return c.firstCycle(w)
}

// firstCycle tells the first constant or variable of a web that needs itself.
func (c *checker) firstCycle(w *web) api.Fault {
	first := len(w.decls)
	needsItself := make([]bool, len(w.decls))
	for _, e := range w.needs {
		needsItself[e[0]] = needsItself[e[0]] || e[0] == e[1]
	}
	parts, _ := graphs.Parts(len(w.decls), w.needs)
	for _, part := range parts {
		if len(part) == 1 && !needsItself[part[0]] {
			continue
		}
		for _, i := range part {
			if i < first && c.owners[w.decls[i]] != nil {
				first = i
			}
		}
	}
	if first == len(w.decls) {
		return api.Fault{}
	}
	at := c.decls[w.decls[first]].At
	return api.Fault{Why: api.ErrCycle, File: at.File, At: c.sheets[at.File].tokens[at.Token].From}
}

// wholeWeb is what the variables, functions and methods of a package need, through each other too.
func (c *checker) wholeWeb(pack int) *web {
	isOne := func(decl int) bool { return c.owners[decl] != nil || c.bodies[decl] != spot{} }
	return c.webOf(pack, isOne, func(decl int) []int {
		if o := c.owners[decl]; o != nil {
			return c.named(o.in, o.exprs(), true)
		}
		body := c.bodies[decl]
		return c.named(c.sheets[body.file], []int{body.node}, true)
	})
}

// findCycle tells the first variable of a package that needs itself at all.
func (c *checker) findCycle(pack int) api.Fault { return c.firstCycle(c.wholeWeb(pack)) }

// unit is what is made at once of package variables: a Name, or several of one expression.
type unit struct {
	in           *sheet
	names, exprs []int
}

func (c *checker) units(pack int) []unit {
	var out []unit
	for _, file := range c.packs[pack].Files {
		h := c.sheets[file]
		r := reader{checker: c, sheet: h}
		for _, n := range h.declarations() {
			if h.kind(n) != api.NodeVar {
				continue
			}
			for _, spec := range h.kids(n) {
				out = append(out, unitsOf(h, r.varSpec(spec))...)
			}
		}
	}
	return out
}

func unitsOf(h *sheet, x *varSpec) []unit {
	if len(x.exprs) > 0 && len(x.exprs) < len(x.names) {
		return []unit{{h, x.names, x.exprs}}
	}
	var out []unit
	for i, n := range x.names {
		u := unit{in: h, names: []int{n}}
		if len(x.exprs) > 0 {
			u.exprs = x.exprs[i : i+1]
		}
		out = append(out, u)
	}
	return out
}

// startOf is the order in which a package's variables are made. Functions that need each other count as one thing; they have the lowest numbers, so that none of them makes a variable wait that could be made.
func (c *checker) startOf(pack int) []api.Place {
	w := c.wholeWeb(pack)
	number := map[int]int{} // by declaration
	count := 0
	parts, _ := graphs.Parts(len(w.decls), w.needs)
	for _, part := range parts {
		if c.owners[w.decls[part[0]]] != nil {
			continue
		}
		for _, i := range part {
			number[w.decls[i]] = count
		}
		count++
	}
	units := c.units(pack)
	for i, u := range units {
		for _, n := range u.names {
			if d := c.s.Makes(u.in.at(n)); d >= 0 {
				number[d] = count + i
			}
		}
	}
	var needs [][2]int
	link := func(from, decl int) {
		if to, ok := number[decl]; ok && to != from {
			needs = append(needs, [2]int{from, to})
		}
	}
	for _, e := range w.needs {
		if from := w.decls[e[0]]; c.owners[from] == nil {
			link(number[from], w.decls[e[1]])
		}
	}
	for i, u := range units {
		for _, d := range c.named(u.in, u.exprs, true) {
			link(count+i, d)
		}
	}
	var out []api.Place
	order, _, _ := graphs.Order(count+len(units), needs)
	for _, k := range order {
		if k >= count {
			u := units[k-count]
			out = append(out, u.in.at(u.names[0]))
		}
	}
	return out
}

// findFlow tells the first fault of a package that package flow finds.
func (c *checker) findFlow(pack int) api.Fault {
	for _, file := range c.packs[pack].Files {
		h := c.sheets[file]
		for _, n := range h.declarations() {
			for _, k := range h.outerFuncs(n) {
				if f := flow.Func(c.p, c.s, c.t, file, k); f.Why != api.OK {
					return f
				}
			}
		}
	}
	return flow.Imports(c.p, c.s, c.t, pack)
}

// outerFuncs are the outermost Func or FuncLits of a declaration.
func (h *sheet) outerFuncs(node int) []int {
	var out []int
	for n := node; n < h.behind(node); n++ {
		if h.kind(n) == api.NodeFunc || h.kind(n) == api.NodeFuncLit {
			out = append(out, n)
			n = h.behind(n) - 1
		}
	}
	return out
}

// findMain asks for the function with which a program begins.
func (c *checker) findMain() api.Fault {
	main := slices.IndexFunc(c.packs, func(p api.Pack) bool { return p.Name == "main" })
	for _, d := range c.decls {
		if d.Kind == api.DeclFunc && d.Name == "main" && d.Pack == main {
			return api.Fault{}
		}
	}
	h := c.sheets[c.packs[main].Files[0]]
	return api.Fault{Why: api.ErrMain, File: h.number, At: h.tokens[h.first(h.kids(0)[0])].From}
}
