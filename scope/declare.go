package scope

import "moniker/api"

// declarer goes through a file from the left and makes its declarations and scopes.
type declarer struct {
	*resolver
	*sheet
}

func (d declarer) declareFile() {
	kids := d.kids(0)
	if k := &d.packs[d.pack]; k.decl < 0 {
		k.decl = d.add(api.DeclPackage, d.first(kids[0]), -1)
	}
	d.visit(kids[1], d.fileScope)
	d.visit(kids[2], d.fileScope)
}

// visit makes what is declared in a node, in a scope.
func (d declarer) visit(n int, in *scope) {
	switch d.kind(n) {
	case api.NodeImportSpec:
		d.importSpec(n)
	case api.NodeConstSpec:
		d.values(n, in, api.DeclConst)
	case api.NodeVarSpec:
		d.values(n, in, api.DeclVar)
	case api.NodeTypeSpec:
		d.typeSpec(n, in)
	case api.NodeFunc, api.NodeFuncLit:
		d.function(n, in)
	case api.NodeMatch:
		d.match(n, in)
	case api.NodeRange:
		d.ranging(n, in)
	case api.NodeDefine:
		d.define(n, in)
	case api.NodeLabel:
		d.label(n, in)
	case api.NodeCase, api.NodeDefault:
		d.clause(n, d.open(n, in))
	case api.NodeBlock, api.NodeIf, api.NodeSwitch, api.NodeFor:
		d.visitKids(n, d.open(n, in))
	default:
		d.visitKids(n, in)
	}
}

func (d declarer) visitKids(n int, in *scope) {
	for _, k := range d.kids(n) {
		d.visit(k, in)
	}
}

// open makes the scope of a node.
func (d declarer) open(n int, in *scope) *scope {
	s := &scope{around: in, function: in.function, run: d.run(n)}
	d.own[n] = s
	d.scopes = append(d.scopes, s)
	return s
}

// clause makes what is declared in a Case or Default, whose Block has its scope.
func (d declarer) clause(n int, own *scope) {
	for _, k := range d.kids(n) {
		d.visitKids(k, own)
	}
}

// add makes a declaration, at the token that is spelled as its name; -1, if that is blank.
func (d declarer) add(kind api.DeclKind, token, of int) int {
	word := d.word(token)
	if word == "_" {
		return -1
	}
	made := d.addNamed(kind, word, d.at(token), of)
	d.pieces[token].makes = made
	return made
}

func (d declarer) addNamed(kind api.DeclKind, name string, at api.Place, of int) int {
	d.decls = append(d.decls, api.Decl{Kind: kind, Name: name, Pack: d.pack, Of: of, At: at})
	return len(d.decls) - 1
}

func isSpecial(name string) bool { return name == "main" || name == "init" }

// declare declares a name in a scope, known from a token up to the scope's end; what stands outside of functions, in the package.
func (d declarer) declare(kind api.DeclKind, token int, in *scope, from int) int {
	if in == d.fileScope {
		return d.outer(kind, token)
	}
	return d.local(kind, token, in, run{from, in.run.end})
}

// local declares a name in a function.
func (d declarer) local(kind api.DeclKind, token int, in *scope, known run) int {
	made := d.inner(kind, token, -1)
	if made < 0 {
		return -1
	}
	word := d.word(token)
	if _, ok := d.names[key{in, word}]; ok {
		d.tell(api.ErrTwice, within, d.at(token))
		return made
	}
	d.bind(word, in, binding{made, known})
	return made
}

// inner makes a declaration that may never be named as special functions are: a local one, a member, a label.
func (d declarer) inner(kind api.DeclKind, token, of int) int {
	made := d.add(kind, token, of)
	if made >= 0 && isSpecial(d.word(token)) {
		d.tell(api.ErrSpecial, within, d.at(token))
	}
	return made
}

// outer declares a name in the package.
func (d declarer) outer(kind api.DeclKind, token int) int {
	made := d.add(kind, token, -1)
	if made < 0 {
		return -1
	}
	if isSpecial(d.word(token)) {
		d.tell(api.ErrSpecial, outside, d.at(token))
	}
	d.bindOuter(token, binding{made, everywhere()})
	return made
}

func (d declarer) bindOuter(token int, b binding) {
	in, word := d.packs[d.pack].scope, d.word(token)
	if _, ok := d.names[key{in, word}]; ok {
		d.tell(api.ErrTwice, outside, d.at(token))
		return
	}
	d.bind(word, in, b)
}

func (d declarer) importSpec(n int) {
	kids := d.kids(n)
	pack, token := d.program.Imported(d.number, n), d.first(kids[1])
	i := imported{}
	name := d.packs[pack].name
	if d.kind(kids[0]) == api.NodeName {
		token = d.first(kids[0])
		name = d.word(token)
		i.decl = d.add(api.DeclImport, token, -1)
	} else {
		i.decl = d.addNamed(api.DeclImport, name, api.Place{File: -1}, -1)
	}
	i.at = d.at(token)
	d.imports = append(d.imports, i)
	d.behind[i.decl] = pack
	if isSpecial(name) {
		d.tell(api.ErrSpecial, outside, i.at)
	}
	if _, ok := d.names[key{d.fileScope, name}]; ok {
		d.tell(api.ErrTwice, outside, i.at)
		return
	}
	d.bind(name, d.fileScope, binding{i.decl, everywhere()})
}
