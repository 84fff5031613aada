package scope

import "moniker/api"

// binder goes through a file whose declarations, and those of all others, are made, and binds its names.
type binder struct {
	*resolver
	*sheet
}

func (b binder) bindFile() {
	kids := b.kids(0)
	b.pieces[b.first(kids[0])].bound = b.packs[b.pack].decl
	b.visit(kids[1], b.fileScope)
	b.visit(kids[2], b.fileScope)
}

// visit binds the names in a node that lies in a scope.
func (b binder) visit(n int, in *scope) {
	if b.own[n] != nil {
		in = b.own[n]
	}
	kids := b.kids(n)
	switch b.kind(n) {
	case api.NodeName:
		b.name(n, in)
		return
	case api.NodeSelect:
		b.selector(kids[0], kids[1], in)
		return
	case api.NodeBreak, api.NodeContinue:
		b.leaving(kids[0], in)
		return
	case api.NodePair:
		if b.kind(kids[0]) == api.NodeName {
			b.pieces[b.first(kids[0])].bound = b.declarationAt(kids[0], in)
			kids = kids[1:]
		}
	}
	for _, k := range kids {
		b.visit(k, in)
	}
	if b.kind(n) == api.NodeFunc {
		b.method(kids[0], kids[1])
	}
}

// declarationAt is the declaration of a Name at its token; -1: there is none.
func (b binder) declarationAt(n int, in *scope) int {
	token := b.first(n)
	return b.find(b.word(token), b.at(token), in)
}

func (b binder) isBlank(n int) bool { return b.word(b.first(n)) == "_" }

// name binds a Name to what it makes, or else to the declaration of its name there.
func (b binder) name(n int, in *scope) {
	if b.isBlank(n) {
		return
	}
	token := b.first(n)
	p := &b.pieces[token]
	if p.makes >= 0 && b.decls[p.makes].Kind != api.DeclEmbed {
		p.bound = p.makes
		return
	}
	p.bound = b.declarationAt(n, in)
	switch {
	case p.bound < 0:
		b.tell(api.ErrUnknown, within, b.at(token))
	case b.decls[p.bound].Kind == api.DeclImport:
		b.tell(api.ErrUse, within, b.at(token))
	}
}

// selector binds x, and f only where x is the bare name of an import.
func (b binder) selector(x, f int, in *scope) {
	decl := -1
	if b.kind(x) == api.NodeName {
		decl = b.declarationAt(x, in)
	}
	if decl < 0 || b.decls[decl].Kind != api.DeclImport {
		b.visit(x, in)
		return
	}
	b.pieces[b.first(x)].bound = decl
	if b.isBlank(f) {
		return
	}
	token := b.first(f)
	if found, ok := b.names[key{b.packs[b.behind[decl]].scope, b.word(token)}]; ok && found.known != nowhere() {
		b.pieces[token].bound = found.decl
		return
	}
	b.tell(api.ErrUnknown, within, b.at(token))
}

// leaving binds the name of a Break or Continue to its label.
func (b binder) leaving(n int, in *scope) {
	if b.kind(n) == api.NodeNone || b.isBlank(n) {
		return
	}
	token := b.first(n)
	label, ok := b.labels[key{in.function, b.word(token)}]
	if !ok {
		b.tell(api.ErrUnknown, within, b.at(token))
		return
	}
	b.pieces[token].bound = label
}

// method finds out whose method a Func with a receiver is.
func (b binder) method(recv, name int) {
	made := b.pieces[b.first(name)].makes
	if b.kind(recv) == api.NodeNone || made < 0 {
		return
	}
	of := b.kids(recv)[1]
	if b.kind(of) == api.NodeStar {
		of = b.kids(of)[0]
	}
	if b.kind(of) != api.NodeName {
		return
	}
	if decl := b.pieces[b.first(of)].bound; decl >= 0 && b.decls[decl].Kind == api.DeclType {
		b.decls[made].Of = decl
	}
}
