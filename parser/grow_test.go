package parser_test

import (
	"math/rand/v2"
	"slices"

	"moniker/api"
)

// sprout is a node of a file that grows by chance: its run is counted in tokens.
type sprout struct {
	kind       api.NodeKind
	first, end int
	kids       []*sprout
}

// garden grows a file by the rules of 0.2 and, at the same time, the tree that 0.3 and chapter 3 give it.
type garden struct {
	r     *rand.Rand
	kinds []api.Kind
	not   []api.Kind // what the next token may not be, as it would go on what stands ahead
	bad   bool       // such a token came all the same
	room  int        // how much more may be made
}

var resultBegins = []api.Kind{api.TokName, api.TokMul, api.TokOpenAt, api.TokMap, api.TokFunc, api.TokOpen}

// grown is a file by chance, with its tree.
func grown(r *rand.Rand, room int) ([]api.Kind, *sprout) {
	for {
		g := &garden{r: r, room: room}
		if f := g.file(); !g.bad {
			return g.kinds, f
		}
	}
}

func (g *garden) tok(kinds ...api.Kind) {
	for _, k := range kinds {
		g.bad = g.bad || slices.Contains(g.not, k)
		g.not = nil
		g.kinds = append(g.kinds, k)
	}
}

func (g *garden) now() int { return len(g.kinds) }

func (g *garden) node(kind api.NodeKind, first int, kids ...*sprout) *sprout {
	return &sprout{kind, first, g.now(), kids}
}

func (g *garden) empty(kind api.NodeKind) *sprout { return g.node(kind, g.now()) }

func (g *garden) none() *sprout { return g.empty(api.NodeNone) }

func (g *garden) coin() bool { return g.r.IntN(2) == 0 }

// more tells whether one more is to be made of what may stand any number of times.
func (g *garden) more() bool {
	g.room--
	return g.room > 0 && g.coin()
}

// pick does one of several; the first alone, if there is no room.
func (g *garden) pick(ways ...func() *sprout) *sprout {
	g.room--
	if g.room <= 0 {
		return ways[0]()
	}
	return ways[g.r.IntN(len(ways))]()
}

func (g *garden) leaf(kind api.NodeKind, k api.Kind) *sprout {
	first := g.now()
	g.tok(k)
	return g.node(kind, first)
}

func (g *garden) name() *sprout { return g.leaf(api.NodeName, api.TokName) }

func (g *garden) semi() {
	if g.coin() {
		g.tok(api.TokSemi)
	} else {
		g.tok(api.TokAuto)
	}
}

func (g *garden) list(one func() *sprout) *sprout {
	first := g.now()
	kids := []*sprout{one()}
	for g.more() {
		g.tok(api.TokComma)
		kids = append(kids, one())
	}
	return g.node(api.NodeList, first, kids...)
}

// listIn is a list ahead of a bracket, with a comma behind it or none.
func (g *garden) listIn(one func() *sprout) *sprout {
	if !g.more() {
		return g.empty(api.NodeList)
	}
	l := g.list(one)
	g.comma()
	return l
}

func (g *garden) comma() {
	if g.r.IntN(4) == 0 {
		g.tok(api.TokComma)
	}
}

func (g *garden) file() *sprout {
	g.tok(api.TokPackage)
	name := g.name()
	g.semi()
	imports := g.rows(g.importing)
	decls := g.rows(func() *sprout {
		return g.pick(g.constant, g.variable, g.typing, g.function, g.function, g.function)
	})
	return g.node(api.NodeFile, 0, name, imports, decls)
}

func (g *garden) rows(one func() *sprout) *sprout {
	first := g.now()
	var kids []*sprout
	for g.more() {
		kids = append(kids, one())
		g.semi()
	}
	return g.node(api.NodeList, first, kids...)
}

func (g *garden) importing() *sprout {
	return g.group(api.NodeImport, api.TokImport, func() *sprout {
		first, name := g.now(), g.none()
		if g.coin() {
			name = g.name()
		}
		path := g.leaf(api.NodeText, api.TokText)
		return g.node(api.NodeImportSpec, first, name, path)
	})
}

func (g *garden) group(kind api.NodeKind, k api.Kind, spec func() *sprout) *sprout {
	first := g.now()
	g.tok(k)
	if g.r.IntN(3) > 0 {
		return g.node(kind, first, spec())
	}
	g.tok(api.TokOpen)
	specs := g.members(spec)
	g.tok(api.TokClose)
	return g.node(kind, first, specs...)
}

// members have a ; behind each, the last one may have none.
func (g *garden) members(one func() *sprout) []*sprout {
	var kids []*sprout
	for g.more() {
		if len(kids) > 0 {
			g.semi()
		}
		kids = append(kids, one())
	}
	if len(kids) > 0 && g.coin() {
		g.semi()
	}
	return kids
}

func (g *garden) constant() *sprout {
	return g.group(api.NodeConst, api.TokConst, func() *sprout {
		first, names := g.now(), g.list(g.name)
		of, values := g.none(), g.empty(api.NodeList)
		if g.coin() {
			of, values = g.maybeType(), g.values()
		}
		return g.node(api.NodeConstSpec, first, names, of, values)
	})
}

func (g *garden) variable() *sprout {
	return g.group(api.NodeVar, api.TokVar, func() *sprout {
		first, names := g.now(), g.list(g.name)
		if g.coin() {
			of, values := g.maybeType(), g.values()
			return g.node(api.NodeVarSpec, first, names, of, values)
		}
		of := g.typ()
		return g.node(api.NodeVarSpec, first, names, of, g.empty(api.NodeList))
	})
}

func (g *garden) maybeType() *sprout {
	if g.coin() {
		return g.typ()
	}
	return g.none()
}

func (g *garden) values() *sprout {
	g.tok(api.TokIs)
	return g.list(g.expr)
}

func (g *garden) typing() *sprout {
	return g.group(api.NodeTypes, api.TokType, func() *sprout {
		first, name := g.now(), g.name()
		of := g.pick(g.typ, g.structure, g.interfacing)
		return g.node(api.NodeTypeSpec, first, name, of)
	})
}

func (g *garden) structure() *sprout {
	first := g.now()
	g.tok(api.TokStruct, api.TokBegin)
	kids := g.members(func() *sprout {
		return g.pick(g.embedded, func() *sprout {
			first, names := g.now(), g.list(g.name)
			of := g.typ()
			return g.node(api.NodeField, first, names, of)
		})
	})
	g.tok(api.TokEnd)
	return g.node(api.NodeStruct, first, kids...)
}

func (g *garden) embedded() *sprout {
	first := g.now()
	return g.node(api.NodeEmbed, first, g.starName())
}

func (g *garden) starName() *sprout {
	if g.coin() {
		return g.typeName()
	}
	first := g.now()
	g.tok(api.TokMul)
	of := g.typeName()
	return g.node(api.NodeStar, first, of)
}

func (g *garden) interfacing() *sprout {
	first := g.now()
	g.tok(api.TokInterface, api.TokBegin)
	kids := g.members(func() *sprout {
		first := g.now()
		if g.coin() {
			return g.node(api.NodeEmbed, first, g.typeName())
		}
		name := g.name()
		shape := g.signature(api.NodeShape, g.typ)
		return g.node(api.NodeMethod, first, name, shape)
	})
	g.tok(api.TokEnd)
	return g.node(api.NodeInterface, first, kids...)
}

func (g *garden) function() *sprout {
	first := g.now()
	g.tok(api.TokFunc)
	recv := g.none()
	if g.coin() {
		recv = g.receiver()
	}
	name := g.name()
	sig := g.sig()
	body := g.block()
	return g.node(api.NodeFunc, first, recv, name, sig, body)
}

func (g *garden) receiver() *sprout {
	first := g.now()
	g.tok(api.TokOpen)
	name := g.none()
	if g.coin() {
		name = g.name()
	}
	of := g.starName()
	g.tok(api.TokClose)
	return g.node(api.NodeRecv, first, name, of)
}

func (g *garden) sig() *sprout {
	return g.signature(api.NodeSig, func() *sprout {
		first, names := g.now(), g.list(g.name)
		of := g.typ()
		return g.node(api.NodeParam, first, names, of)
	})
}

func (g *garden) signature(kind api.NodeKind, param func() *sprout) *sprout {
	first := g.now()
	g.tok(api.TokOpen)
	params := g.listIn(param)
	g.tok(api.TokClose)
	switch g.r.IntN(3) {
	case 0:
		g.not = append(g.not, resultBegins...)
		return &sprout{kind, first, g.now(), []*sprout{params, g.empty(api.NodeList)}}
	case 1:
		at := g.now()
		of := g.typeWithoutParen()
		return g.node(kind, first, params, g.node(api.NodeList, at, of))
	}
	g.tok(api.TokOpen)
	results := g.list(g.typ)
	g.comma()
	g.tok(api.TokClose)
	return g.node(kind, first, params, results)
}

func (g *garden) typ() *sprout {
	return g.pick(g.typeName, g.typeWithoutParen, func() *sprout {
		first := g.now()
		g.tok(api.TokOpen)
		of := g.typ()
		g.tok(api.TokClose)
		return g.node(api.NodeParen, first, of)
	})
}

func (g *garden) typeWithoutParen() *sprout {
	return g.pick(g.typeName, g.longType, func() *sprout {
		first := g.now()
		g.tok(api.TokMul)
		of := g.typ()
		return g.node(api.NodeStar, first, of)
	}, func() *sprout {
		first := g.now()
		g.tok(api.TokFunc)
		of := g.signature(api.NodeShape, g.typ)
		return g.node(api.NodeFuncOf, first, of)
	})
}

func (g *garden) longType() *sprout {
	first := g.now()
	if g.coin() {
		g.tok(api.TokOpenAt, api.TokCloseAt)
		of := g.typ()
		return g.node(api.NodeSliceOf, first, of)
	}
	g.tok(api.TokMap, api.TokOpenAt)
	key := g.typ()
	g.tok(api.TokCloseAt)
	of := g.typ()
	return g.node(api.NodeMapOf, first, key, of)
}

func (g *garden) typeName() *sprout {
	t := g.plainName()
	if t.kind == api.NodeName {
		g.not = append(g.not, api.TokDot)
	}
	return t
}

// plainName is a name of one or two, whatever comes behind it.
func (g *garden) plainName() *sprout {
	first, name := g.now(), g.name()
	if g.coin() {
		return name
	}
	g.tok(api.TokDot)
	second := g.name()
	return g.node(api.NodeSelect, first, name, second)
}
