package parser_test

import "moniker/api"

func (g *garden) block() *sprout {
	first := g.now()
	g.tok(api.TokBegin)
	kids := g.stmts(true)
	g.tok(api.TokEnd)
	return g.node(api.NodeBlock, first, kids...)
}

// stmts are statements with a ; behind each; the last one may have none ahead of a } , if it is written at all.
func (g *garden) stmts(ahead bool) []*sprout {
	var kids []*sprout
	for g.more() {
		s := g.stmt()
		kids = append(kids, s)
		if last := ahead && s.kind != api.NodeEmpty && g.r.IntN(3) == 0; last {
			return kids
		}
		g.semi()
	}
	return kids
}

func (g *garden) stmt() *sprout {
	return g.pick(
		func() *sprout { return g.empty(api.NodeEmpty) },
		g.constant, g.variable, g.typing, g.block, g.branch, g.choice, g.choice, g.matching, g.loop, g.loop, g.over, g.label,
		g.giveBack, g.leave, func() *sprout { return g.leaf(api.NodeFall, api.TokFallthrough) },
		func() *sprout { return g.simple(false, true) }, func() *sprout { return g.simple(false, true) },
	)
}

func (g *garden) label() *sprout {
	first, name := g.now(), g.name()
	g.tok(api.TokColon)
	end := g.now()
	s := g.stmt()
	if s.kind != api.NodeEmpty {
		end = g.now()
	}
	return &sprout{api.NodeLabel, first, end, []*sprout{name, s}}
}

func (g *garden) giveBack() *sprout {
	first := g.now()
	g.tok(api.TokReturn)
	if g.coin() {
		return g.node(api.NodeReturn, first, g.empty(api.NodeList))
	}
	values := g.list(g.expr)
	return g.node(api.NodeReturn, first, values)
}

func (g *garden) leave() *sprout {
	first, kind, k := g.now(), api.NodeBreak, api.TokBreak
	if g.coin() {
		kind, k = api.NodeContinue, api.TokContinue
	}
	g.tok(k)
	if g.coin() {
		return g.node(kind, first, g.none())
	}
	name := g.name()
	return g.node(kind, first, name)
}

var assigns = []api.Kind{
	api.TokIs, api.TokAddIs, api.TokSubIs, api.TokMulIs, api.TokDivIs, api.TokRemIs, api.TokAndIs, api.TokOrIs, api.TokXorIs,
	api.TokShlIs, api.TokShrIs, api.TokAndNotIs,
}

func (g *garden) simple(bare, define bool) *sprout {
	first := g.now()
	expr := g.exprOf(bare)
	ways := []func() *sprout{
		func() *sprout {
			x := expr()
			return g.node(api.NodeDo, first, x)
		},
		func() *sprout {
			x := expr()
			g.tok([]api.Kind{api.TokInc, api.TokDec}[g.r.IntN(2)])
			return g.node(api.NodeStep, first, x)
		},
		func() *sprout {
			left := g.list(expr)
			g.tok(assigns[g.r.IntN(len(assigns))])
			right := g.list(expr)
			return g.node(api.NodeAssign, first, left, right)
		},
		func() *sprout {
			left := g.list(g.name)
			g.tok(api.TokNew)
			right := g.list(expr)
			return g.node(api.NodeDefine, first, left, right)
		},
	}
	if !define {
		ways = ways[:3]
	}
	return g.pick(ways...)
}

func (g *garden) exprOf(bare bool) func() *sprout {
	return func() *sprout { return g.binary(bare, 1) }
}

// start is a header's Simple and its ; , or nothing.
func (g *garden) start() *sprout {
	at := g.none()
	switch g.r.IntN(3) {
	case 0:
		at = g.simple(true, true)
		fallthrough
	case 1:
		g.semi()
	}
	return at
}

func (g *garden) branch() *sprout {
	first := g.now()
	g.tok(api.TokIf)
	start, cond := g.start(), g.binary(true, 1)
	then := g.block()
	if g.coin() {
		return g.node(api.NodeIf, first, start, cond, then, g.none())
	}
	g.tok(api.TokElse)
	other := g.pick(g.block, g.branch)
	return g.node(api.NodeIf, first, start, cond, then, other)
}

func (g *garden) choice() *sprout {
	first := g.now()
	g.tok(api.TokSwitch)
	start, tag := g.start(), g.none()
	if g.coin() {
		tag = g.binary(true, 1)
	}
	clauses := g.clauses(g.expr)
	return g.node(api.NodeSwitch, first, start, tag, clauses)
}

func (g *garden) matching() *sprout {
	first := g.now()
	g.tok(api.TokSwitch)
	start, name := g.start(), g.none()
	if g.coin() {
		name = g.name()
		g.tok(api.TokNew)
	}
	x := g.primary(true)
	g.tok(api.TokDot, api.TokOpen, api.TokType, api.TokClose)
	clauses := g.clauses(g.typ)
	return g.node(api.NodeMatch, first, start, name, x, clauses)
}

func (g *garden) clauses(one func() *sprout) *sprout {
	g.tok(api.TokBegin)
	first := g.now()
	var kids []*sprout
	n := g.r.IntN(4)
	for i := range n {
		at, kind := g.now(), api.NodeDefault
		var of []*sprout
		if g.coin() {
			kind = api.NodeCase
			g.tok(api.TokCase)
			of = append(of, g.list(one))
		} else {
			g.tok(api.TokDefault)
		}
		g.tok(api.TokColon)
		begin := g.now()
		stmts := g.stmts(i == n-1)
		of = append(of, g.node(api.NodeBlock, begin, stmts...))
		kids = append(kids, g.node(kind, at, of...))
	}
	all := g.node(api.NodeList, first, kids...)
	g.tok(api.TokEnd)
	return all
}

func (g *garden) loop() *sprout {
	first := g.now()
	g.tok(api.TokFor)
	start, cond, post := g.none(), g.none(), g.none()
	switch g.r.IntN(3) {
	case 0:
		cond, post = g.binary(true, 1), g.none()
	case 1:
		if g.coin() {
			start = g.simple(true, true)
		}
		g.semi()
		cond = g.none()
		if g.coin() {
			cond = g.binary(true, 1)
		}
		g.semi()
		post = g.none()
		if g.coin() {
			post = g.simple(true, false)
		}
	}
	body := g.block()
	return g.node(api.NodeFor, first, start, cond, post, body)
}

func (g *garden) over() *sprout {
	first := g.now()
	g.tok(api.TokFor)
	left := g.empty(api.NodeList)
	if one := g.exprOf(true); g.coin() {
		sign := api.TokIs
		if g.coin() {
			one, sign = g.name, api.TokNew
		}
		at := g.now()
		kids := []*sprout{one()}
		if g.coin() {
			g.tok(api.TokComma)
			kids = append(kids, one())
		}
		left = g.node(api.NodeList, at, kids...)
		g.tok(sign)
	}
	g.tok(api.TokRange)
	x := g.binary(true, 1)
	body := g.block()
	return g.node(api.NodeRange, first, left, x, body)
}

func (g *garden) expr() *sprout { return g.binary(false, 1) }

// operators by their strengths, from the weakest.
var operators = [][]api.Kind{
	1: {api.TokEither},
	2: {api.TokBoth},
	3: {api.TokEq, api.TokNe, api.TokLt, api.TokLe, api.TokGt, api.TokGe},
	4: {api.TokAdd, api.TokSub, api.TokOr, api.TokXor},
	5: {api.TokMul, api.TokDiv, api.TokRem, api.TokShl, api.TokShr, api.TokAnd, api.TokAndNot},
}

// binary is an expression whose operator, if it has one outside of all brackets, binds at least so strong.
func (g *garden) binary(bare bool, least int) *sprout {
	return g.pick(func() *sprout { return g.unary(bare) }, func() *sprout { return g.unary(bare) }, func() *sprout {
		if least > 5 {
			return g.unary(bare)
		}
		first, s := g.now(), least+g.r.IntN(6-least)
		left := g.binary(bare, s)
		g.tok(operators[s][g.r.IntN(len(operators[s]))])
		right := g.binary(bare, s+1)
		return g.node(api.NodeBinary, first, left, right)
	})
}

func (g *garden) unary(bare bool) *sprout {
	if g.r.IntN(4) > 0 {
		return g.primary(bare)
	}
	first, kind := g.now(), api.NodeSign
	k := []api.Kind{api.TokAdd, api.TokSub, api.TokNot, api.TokXor, api.TokAnd, api.TokMul}[g.r.IntN(6)]
	if k == api.TokMul {
		kind = api.NodeStar
	}
	g.tok(k)
	of := g.unary(bare)
	return g.node(kind, first, of)
}

func (g *garden) primary(bare bool) *sprout {
	first := g.now()
	x := g.operand(bare)
	for g.r.IntN(3) == 0 {
		switch g.r.IntN(5) {
		case 0:
			g.tok(api.TokDot)
			name := g.name()
			x = g.node(api.NodeSelect, first, x, name)
		case 1:
			g.tok(api.TokDot, api.TokOpen)
			of := g.typ()
			g.tok(api.TokClose)
			x = g.node(api.NodeAssert, first, x, of)
		case 2:
			g.tok(api.TokOpenAt)
			at := g.expr()
			g.tok(api.TokCloseAt)
			x = g.node(api.NodeIndex, first, x, at)
		case 3:
			x = g.slicing(first, x)
		case 4:
			x = g.calling(first, x)
		}
	}
	return x
}

func (g *garden) slicing(first int, x *sprout) *sprout {
	g.tok(api.TokOpenAt)
	low := g.none()
	if g.coin() {
		low = g.expr()
	}
	g.tok(api.TokColon)
	high := g.none()
	if g.coin() {
		high = g.expr()
	}
	g.tok(api.TokCloseAt)
	return g.node(api.NodeSlice, first, x, low, high)
}

func (g *garden) calling(first int, x *sprout) *sprout {
	g.tok(api.TokOpen)
	args := g.empty(api.NodeList)
	if g.coin() {
		args = g.list(g.expr)
		if g.r.IntN(4) == 0 {
			g.tok(api.TokDots)
		}
		g.comma()
	}
	g.tok(api.TokClose)
	return g.node(api.NodeCall, first, x, args)
}

func (g *garden) operand(bare bool) *sprout {
	return g.pick(g.name,
		func() *sprout { return g.leaf(api.NodeNumber, api.TokNumber) },
		func() *sprout { return g.leaf(api.NodeChar, api.TokChar) },
		func() *sprout { return g.leaf(api.NodeText, api.TokText) },
		func() *sprout {
			first := g.now()
			g.tok(api.TokOpen)
			of := g.expr()
			g.tok(api.TokClose)
			return g.node(api.NodeParen, first, of)
		},
		func() *sprout {
			first := g.now()
			g.tok(api.TokFunc)
			sig := g.sig()
			body := g.block()
			return g.node(api.NodeFuncLit, first, sig, body)
		},
		func() *sprout {
			of := g.longType()
			g.not = append(g.not, api.TokBegin)
			return of
		},
		func() *sprout { return g.composite(g.longType) },
		func() *sprout {
			if bare {
				return g.name()
			}
			return g.composite(g.plainName)
		},
	)
}

func (g *garden) composite(of func() *sprout) *sprout {
	first, kind := g.now(), of()
	g.tok(api.TokBegin)
	elements := g.listIn(func() *sprout {
		at, x := g.now(), g.expr()
		if g.coin() {
			return x
		}
		g.tok(api.TokColon)
		y := g.expr()
		return g.node(api.NodePair, at, x, y)
	})
	g.tok(api.TokEnd)
	return g.node(api.NodeComposite, first, kind, elements)
}
