package parser_test

import (
	"slices"
	"strings"
	"testing"

	"moniker/api"
	"moniker/lexer"
)

// grammarText is 0.2 as a grammar that is read without thought: what settles its choices stands in it, as rules for headers (H) and as looks at the token that comes next: !dot (no . ), !begin (no { ), !result (none that may begin a Result).
const grammarText = `
File       = "package" name ; { Import ; } { Decl ; }
Import     = "import" ( ImportSpec | "(" [ ImportSpec { ; ImportSpec } [ ; ] ] ")" )
ImportSpec = [ name ] text
Decl       = Const | Var | Types | Func
Const      = "const" ( ConstSpec | "(" [ ConstSpec { ; ConstSpec } [ ; ] ] ")" )
ConstSpec  = Names [ [ Type ] "=" Exprs ]
Var        = "var" ( VarSpec | "(" [ VarSpec { ; VarSpec } [ ; ] ] ")" )
VarSpec    = Names ( Type [ "=" Exprs ] | "=" Exprs )
Types      = "type" ( TypeSpec | "(" [ TypeSpec { ; TypeSpec } [ ; ] ] ")" )
TypeSpec   = name ( Struct | Interface | Type )
Func       = "func" [ Recv ] name Sig Block
Recv       = "(" [ name ] ( TypeName | "*" TypeName ) ")"
Sig        = "(" [ Param { "," Param } [ "," ] ] ")" ( Result | !result )
Param      = Names Type
Result     = Long | TypeName | "*" Type | "func" Shape | "(" Type { "," Type } [ "," ] ")"
Names      = name { "," name }
Exprs      = Expr { "," Expr }

Type       = TypeName | "*" Type | Long | "func" Shape | "(" Type ")"
Long       = "[" "]" Type | "map" "[" Type "]" Type
TypeName   = name "." name | name !dot
Shape      = "(" [ Type { "," Type } [ "," ] ] ")" ( Result | !result )
Struct     = "struct" "{" [ Field { ; Field } [ ; ] ] "}"
Field      = Names Type | [ "*" ] TypeName
Interface  = "interface" "{" [ Method { ; Method } [ ; ] ] "}"
Method     = name Shape | TypeName

Block      = "{" { Stmt ; } [ Stmt ] "}"
Stmt       = Const | Var | Types | Block | If | Switch | For | name ":" Stmt | [ Simple ]
           | "return" [ Exprs ] | "break" [ name ] | "continue" [ name ] | "fallthrough"
Simple     = Expr | Expr Step | Exprs Assign Exprs | Names ":=" Exprs
Step       = "++" | "--"
Assign     = "=" | "+=" | "-=" | "*=" | "/=" | "%=" | "&=" | "|=" | "^=" | "<<=" | ">>=" | "&^="
If         = "if" [ [ SimpleH ] ; ] ExprH Block [ "else" ( If | Block ) ]
Switch     = "switch" [ [ SimpleH ] ; ] ( [ ExprH ] "{" { Clause } [ Last ] "}" | Guard "{" { ClauseT } [ LastT ] "}" )
Guard      = [ name ":=" ] PrimaryH "." "(" "type" ")"
Clause     = ( "case" Exprs | "default" ) ":" { Stmt ; }
Last       = Clause Stmt
ClauseT    = ( "case" Type { "," Type } | "default" ) ":" { Stmt ; }
LastT      = ClauseT Stmt
For        = "for" [ ExprH | [ SimpleH ] ; [ ExprH ] ; [ PostH ] | Range ] Block
Range      = [ ExprH [ "," ExprH ] "=" | name [ "," name ] ":=" ] "range" ExprH

SimpleH    = PostH | Names ":=" ExprsH
PostH      = ExprH | ExprH Step | ExprsH Assign ExprsH
ExprsH     = ExprH { "," ExprH }

Op         = "*" | "/" | "%" | "<<" | ">>" | "&" | "&^" | "+" | "-" | "|" | "^" | "==" | "!=" | "<" | "<=" | ">" | ">=" | "&&" | "||"
Sign       = "+" | "-" | "!" | "^" | "*" | "&"
Expr       = { Sign } Primary { Op { Sign } Primary }
ExprH      = { Sign } PrimaryH { Op { Sign } PrimaryH }
Primary    = Operand { Suffix } | Named { Suffix }
PrimaryH   = Operand { Suffix }
Suffix     = "." name | "[" Expr "]" | "[" [ Expr ] ":" [ Expr ] "]" | "." "(" Type ")" | "(" [ Expr { "," Expr } [ "..." ] [ "," ] ] ")"
Operand    = number | char | text | name | "(" Expr ")" | "func" Sig Block | Long ( Elements | !begin )
Named      = name [ "." name ] Elements
Elements   = "{" [ Element { "," Element } [ "," ] ] "}"
Element    = Expr [ ":" Expr ]
`

// sign is a sign of a rule: a rule's number (rule), kinds of tokens, or a look at the next token, which may be none of these kinds.
type sign struct {
	rule  int
	kinds []api.Kind
	look  bool
}

// grammar has for each rule's number its ways, lists of signs.
type grammar struct {
	rules   [][][]sign
	numbers map[string]int
	words   []string // the text that is being read
}

func newGrammar(t *testing.T) *grammar {
	t.Helper()
	g := &grammar{numbers: map[string]int{}}
	g.rule("File")
	var lines []string
	for _, line := range strings.Split(strings.TrimSpace(grammarText), "\n") {
		if strings.HasPrefix(strings.TrimSpace(line), "| \"return\"") {
			lines[len(lines)-1] += line
		} else if line != "" {
			lines = append(lines, line)
		}
	}
	for _, line := range lines {
		name, right, _ := strings.Cut(line, "=")
		g.words = strings.Fields(right)
		n := g.rule(strings.TrimSpace(name))
		g.rules[n] = g.ways(t)
	}
	for name, n := range g.numbers {
		if len(g.rules[n]) == 0 {
			t.Fatalf("no rule %s", name)
		}
	}
	return g
}

func (g *grammar) rule(name string) int {
	if n, ok := g.numbers[name]; ok {
		return n
	}
	g.numbers[name] = g.add(nil)
	return g.numbers[name]
}

func (g *grammar) add(ways [][]sign) int {
	g.rules = append(g.rules, ways)
	return len(g.rules) - 1
}

func (g *grammar) ways(t *testing.T) [][]sign {
	ways := [][]sign{nil}
	for len(g.words) > 0 {
		w := g.words[0]
		g.words = g.words[1:]
		last := len(ways) - 1
		switch w {
		case "|":
			ways = append(ways, nil)
		case ")", "]", "}":
			return ways
		case "(":
			ways[last] = append(ways[last], sign{rule: g.add(g.ways(t))})
		case "[":
			ways[last] = append(ways[last], sign{rule: g.add(append(g.ways(t), nil))})
		case "{":
			again := g.add(nil)
			var rest [][]sign
			for _, way := range g.ways(t) {
				rest = append(rest, append([]sign{{rule: again}}, way...))
			}
			g.rules[again] = append(rest, nil)
			ways[last] = append(ways[last], sign{rule: again})
		default:
			ways[last] = append(ways[last], g.sign(t, w))
		}
	}
	return ways
}

func (g *grammar) sign(t *testing.T, w string) sign {
	switch w {
	case ";":
		return sign{kinds: []api.Kind{api.TokSemi, api.TokAuto}}
	case "name":
		return sign{kinds: []api.Kind{api.TokName}}
	case "number":
		return sign{kinds: []api.Kind{api.TokNumber}}
	case "char":
		return sign{kinds: []api.Kind{api.TokChar}}
	case "text":
		return sign{kinds: []api.Kind{api.TokText}}
	case "!dot":
		return sign{kinds: []api.Kind{api.TokDot}, look: true}
	case "!begin":
		return sign{kinds: []api.Kind{api.TokBegin}, look: true}
	case "!result":
		return sign{kinds: []api.Kind{api.TokName, api.TokMul, api.TokOpenAt, api.TokMap, api.TokFunc, api.TokOpen}, look: true}
	}
	if w[0] != '"' {
		return sign{rule: g.rule(w)}
	}
	k, ok := lexer.Kind(strings.Trim(w, `"`))
	if !ok {
		t.Fatalf("no token %s", w)
	}
	return sign{kinds: []api.Kind{k}}
}

// item is a way of a rule that has been read up to a sign, from the token of that number on.
type item struct{ rule, way, dot, from int }

// charts are the items that stand ahead of each token of a front, as they are before anything of the next one is known.
type charts struct {
	g    *grammar
	sets [][]item
}

func (g *grammar) start() *charts {
	return &charts{g, [][]item{{{}}}}
}

func (c *charts) next(i item) (sign, bool) {
	way := c.g.rules[i.rule][i.way]
	if i.dot == len(way) {
		return sign{}, false
	}
	return way[i.dot], true
}

// closed are all items that stand ahead of the next token, if it is of the kind k, and rules that are done.
func (c *charts) closed(k api.Kind) []item {
	at := len(c.sets) - 1
	all := slices.Clone(c.sets[at])
	seen := map[item]bool{}
	for _, i := range all {
		seen[i] = true
	}
	put := func(i item) {
		if !seen[i] {
			seen[i] = true
			all = append(all, i)
		}
	}
	empty := map[int]bool{} // rules that are done without a token
	for n := 0; n < len(all); n++ {
		i := all[n]
		s, more := c.next(i)
		switch {
		case !more:
			if i.from == at {
				empty[i.rule] = true
			}
			waiting := c.sets[i.from]
			if i.from == at {
				waiting = all
			}
			for _, w := range waiting {
				if s, more := c.next(w); more && s.kinds == nil && s.rule == i.rule {
					put(item{w.rule, w.way, w.dot + 1, w.from})
				}
			}
		case s.look:
			if !slices.Contains(s.kinds, k) {
				put(item{i.rule, i.way, i.dot + 1, i.from})
			}
		case s.kinds == nil:
			for way := range c.g.rules[s.rule] {
				put(item{s.rule, way, 0, at})
			}
			if empty[s.rule] {
				put(item{i.rule, i.way, i.dot + 1, i.from})
			}
		}
	}
	return all
}

// goesOn tells whether a token of the kind k goes on the front, and if so the front with it.
func (c *charts) goesOn(k api.Kind) (*charts, bool) {
	all := c.closed(k)
	var set []item
	for _, i := range all {
		if s, more := c.next(i); more && !s.look && slices.Contains(s.kinds, k) {
			set = append(set, item{i.rule, i.way, i.dot + 1, i.from})
		}
	}
	if len(set) == 0 {
		return nil, false
	}
	sets := append(slices.Clip(c.sets[:len(c.sets)-1]), all, set)
	return &charts{c.g, sets}, true
}

// whole tells whether the front is a File.
func (c *charts) whole() bool {
	for _, i := range c.closed(api.KindCount) {
		if _, more := c.next(i); !more && i.rule == 0 && i.from == 0 {
			return true
		}
	}
	return false
}

// firstStuck is the number of the first of the kinds that cannot go on; how many there are, if they only are no File; -1 of a File.
func (g *grammar) firstStuck(kinds []api.Kind) int {
	c := g.start()
	for n, k := range kinds {
		on, ok := c.goesOn(k)
		if !ok {
			return n
		}
		c = on
	}
	if c.whole() {
		return -1
	}
	return len(kinds)
}
