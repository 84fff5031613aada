package scope

import "moniker/api"

// values makes the names of a ConstSpec or VarSpec.
func (d declarer) values(n int, in *scope, kind api.DeclKind) {
	kids := d.kids(n)
	for _, k := range d.kids(kids[0]) {
		d.declare(kind, d.first(k), in, d.run(n).end)
	}
	if kind == api.DeclConst {
		d.count(d.run(kids[2]))
	}
	d.visit(kids[2], in)
}

// count keeps where iota is known; what lies within a run that is kept adds nothing to it.
func (d declarer) count(r run) {
	last := len(d.counts) - 1
	if r.first < r.end && (last < 0 || d.counts[last].end <= r.first) {
		d.counts = append(d.counts, r)
	}
}

func (d declarer) typeSpec(n int, in *scope) {
	kids := d.kids(n)
	token := d.first(kids[0])
	made := d.declare(api.DeclType, token, in, token)
	for _, k := range d.kids(kids[1]) {
		switch d.kind(k) {
		case api.NodeField:
			for _, name := range d.kids(d.kids(k)[0]) {
				d.inner(api.DeclField, d.first(name), made)
			}
		case api.NodeEmbed:
			if d.kind(kids[1]) == api.NodeStruct {
				d.inner(api.DeclEmbed, d.run(k).end-1, made)
			}
		case api.NodeMethod:
			d.inner(api.DeclShape, d.first(d.kids(k)[0]), made)
		}
	}
}

// function makes what a Func or FuncLit declares: the receiver, its own name, the parameters, and what its Block does.
func (d declarer) function(n int, in *scope) {
	kids := d.kids(n)
	own := d.open(n, in)
	own.function = own
	block := kids[len(kids)-1]
	if d.kind(n) == api.NodeFunc {
		if recv := kids[0]; d.kind(recv) == api.NodeNone {
			d.funcName(kids[1], kids[2])
		} else {
			if name := d.kids(recv)[0]; d.kind(name) == api.NodeName {
				d.local(api.DeclVar, d.first(name), own, d.run(block))
			}
			d.inner(api.DeclMethod, d.first(kids[1]), -1) // whose it is turns out when names are bound
		}
	}
	sig := kids[len(kids)-2]
	for _, param := range d.kids(d.kids(sig)[0]) {
		for _, name := range d.kids(d.kids(param)[0]) {
			d.local(api.DeclVar, d.first(name), own, d.run(block))
		}
	}
	d.visitKids(block, own)
}

// funcName declares a function of the package, by the nodes of its name and Sig.
func (d declarer) funcName(name, sig int) {
	token := d.first(name)
	word := d.word(token)
	made := d.add(api.DeclFunc, token, -1)
	if made < 0 {
		return
	}
	lists := d.kids(sig)
	asked := len(d.kids(lists[0])) > 0 || len(d.kids(lists[1])) > 0
	if isSpecial(word) && (asked || word == "main" && d.packs[d.pack].name != "main") {
		d.tell(api.ErrSpecial, outside, d.at(token))
	}
	if word != "init" {
		d.bindOuter(token, binding{made, everywhere()})
		return
	}
	if b, ok := d.names[key{d.packs[d.pack].scope, word}]; !ok || d.decls[b.decl].Kind != api.DeclFunc {
		d.bindOuter(token, binding{made, nowhere()})
	}
}

// match makes the one declaration of a Match's Name, known in each clause.
func (d declarer) match(n int, in *scope) {
	own := d.open(n, in)
	kids := d.kids(n)
	d.visit(kids[0], own)
	made := -1
	if d.kind(kids[1]) == api.NodeName {
		made = d.inner(api.DeclVar, d.first(kids[1]), -1)
	}
	d.visit(kids[2], own)
	for _, clause := range d.kids(kids[3]) {
		inside := d.open(clause, own)
		if made >= 0 {
			parts := d.kids(clause)
			d.bind(d.decls[made].Name, inside, binding{made, d.run(parts[len(parts)-1])})
		}
		d.clause(clause, inside)
	}
}

// ranging makes the names of a Range, if it has := .
func (d declarer) ranging(n int, in *scope) {
	own := d.open(n, in)
	kids := d.kids(n)
	left, over, block := kids[0], kids[1], kids[2]
	if d.isNew(run{d.run(left).end, d.first(over)}) {
		for _, name := range d.kids(left) {
			d.local(api.DeclVar, d.first(name), own, d.run(block))
		}
	}
	d.visitKids(n, own)
}

// isNew tells whether := stands in a run.
func (d declarer) isNew(r run) bool {
	for _, t := range d.tokens[r.first:r.end] {
		if t.Kind == api.TokNew {
			return true
		}
	}
	return false
}

// define makes those names of a Define that are new.
func (d declarer) define(n int, in *scope) {
	kids := d.kids(n)
	ahead, isNew := len(d.decls), false
	for _, name := range d.kids(kids[0]) {
		token := d.first(name)
		if b, ok := d.names[key{in, d.word(token)}]; ok && b.decl < ahead && d.decls[b.decl].Kind != api.DeclType {
			continue
		}
		if d.declare(api.DeclVar, token, in, d.run(n).end) >= 0 {
			isNew = true
		}
	}
	if !isNew {
		d.tell(api.ErrNew, within, d.at(d.first(kids[0])))
	}
	d.visit(kids[1], in)
}

func (d declarer) label(n int, in *scope) {
	kids := d.kids(n)
	token := d.first(kids[0])
	if made := d.inner(api.DeclLabel, token, -1); made >= 0 {
		k := key{in.function, d.word(token)}
		if _, ok := d.labels[k]; ok {
			d.tell(api.ErrTwice, within, d.at(token))
		} else {
			d.labels[k] = made
		}
	}
	d.visit(kids[1], in)
}
