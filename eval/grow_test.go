package eval_test

import (
	"fmt"
	"math/rand/v2"
	"slices"
	"strings"
)

// prelude are the types and functions that programs by chance use. It is Go as well; where Go leaves an order open (reading a variable beside a call that changes it), nothing hangs on it.
const prelude = `
type N int
type S string
type P struct { a int; b string }
type Q struct { P; c []int; d *P }
type R struct { *P; q Q; m map[string]int; f func(int) int }
type W struct { I; x int }
type I interface { get() int; set(int) }
type J interface { I; name() string }
type E interface { }
func (p P) get() int { return p.a }
func (p *P) set(n int) { p.a = n }
func (p P) name() string { return p.b }
func (n N) get() int { return int(n) + 1 }
func (n N) set(x int) { n = N(x) }
func (q *Q) both(n int) (int, P) { q.a += n; return q.a, q.P }
func (q Q) grown(n int) Q { q.a += n; q.P.b = q.P.b + "q"; return q }
func add(a, b int) int { return a*3 + b }
func pair(a int, b string) (int, string) { return len(b), b + "p" }
func made(a int, b string) P { return P{a, b} }
func fill(s []int, n int) []int { for i := range s { s[i] = n + i }; return s }
func poke(p *P, n int) { if p != nil { p.a = n } }
func kindOf(e E) string { switch x := e.(type) { case nil: return "nil"; case int: return "int"; case string: return x; case N, bool: return "plain"; case J: return x.name(); case I: return "I"; case *Q: return x.b; case []int: if len(x) > 0 { return "many" }; return "none" }; return "other" }
func counter(n int) func(int) int { return func(k int) int { n += k; return n } }
var total = add(base, 2)
var shared, spare = Q{d: &spare}, made(total, "s")
var base = len("abc" + spare0)
var spare0, _ = "de", counter(1)
func init() { total++; spare.a++ }
`

// again is how package variables are set to what they begin with: in Go many bodies share them.
const again = "total, base, spare0, shared, spare = 18, 5, \"de\", Q{d: &spare}, P{18, \"s\"}\n"

// grower writes the statements of a function by chance.
type grower struct {
	r     *rand.Rand
	out   strings.Builder
	vars  map[string][]string // by type, those that are known
	count int
	loops int
	funcs int // how many FuncLits are around
}

func (g *grower) one(n int) bool { return g.r.IntN(n) == 0 }

func (g *grower) put(format string, all ...any) { fmt.Fprintf(&g.out, format+"\n", all...) }

// some is a variable of a type; "": none is known.
func (g *grower) some(of string) string {
	if l := g.vars[of]; len(l) > 0 {
		return l[g.r.IntN(len(l))]
	}
	return ""
}

// fresh is a new variable's name; it is known only when it is noted.
func (g *grower) fresh() string {
	g.count++
	return fmt.Sprint("v", g.count)
}

func (g *grower) note(of, name string) { g.vars[of] = append(g.vars[of], name) }

// within writes what stands in a Block of its own.
func (g *grower) within(do func()) {
	kept := map[string][]string{}
	for of, l := range g.vars {
		kept[of] = slices.Clone(l)
	}
	do()
	g.vars = kept
}

// of is an expression of a type.
func (g *grower) of(kind string, depth int) string {
	if v := g.some(kind); v != "" && (depth <= 0 || g.one(3)) {
		return v
	}
	switch kind {
	case "int":
		return g.whole(depth)
	case "string":
		return g.text(depth)
	case "bool":
		return g.truth(depth)
	case "P":
		return g.struc(depth)
	case "*P":
		return g.pointer(depth)
	}
	return g.other(kind, depth)
}

func (g *grower) whole(depth int) string {
	if depth <= 0 {
		return fmt.Sprint(g.r.IntN(10))
	}
	a, b := func() string { return g.of("int", depth-1) }, func() string { return g.of("string", depth-1) }
	switch g.r.IntN(16) {
	case 0, 1:
		return pick(g.r, "-", "^", "+") + "(" + a() + ")"
	case 2, 3, 4:
		return "(" + a() + pick(g.r, " + ", " - ", " * ", " & ", " | ", " ^ ", " &^ ") + a() + ")"
	case 5:
		return "(" + a() + pick(g.r, " / ", " % ") + "(" + a() + " | 1))"
	case 6:
		return "(" + a() + pick(g.r, " << ", " >> ") + "(" + a() + " & 65))"
	case 7:
		return "add(" + a() + ", " + a() + ")"
	case 8:
		return "len(" + pick(g.r, b(), g.of("[]int", depth-1), g.of("map[string]int", depth-1)) + ")"
	case 9:
		return g.of("P", depth-1) + ".a"
	case 10:
		return g.of("Q", depth-1) + pick(g.r, ".a", ".P.a", ".get()")
	case 11:
		return "int(" + g.of("N", depth-1) + ")"
	case 12:
		return "int((\"ab\" + " + b() + ")[" + a() + " & 1])"
	case 13:
		return g.of("map[string]int", depth-1) + "[" + b() + "]"
	case 14:
		return g.of("P", depth-1) + ".get()"
	}
	return pick(g.r, "N.get("+g.of("N", depth-1)+")", "P.get("+g.of("P", depth-1)+")", "(*P).get("+g.of("*P", depth-1)+")", "I.get("+g.of("I", depth-1)+")", "W.get("+g.of("W", depth-1)+")")
}

func (g *grower) text(depth int) string {
	if depth <= 0 {
		return fmt.Sprintf("%q", pick(g.r, "", "a", "b", "ab", "zz"))
	}
	switch g.r.IntN(8) {
	case 0, 1:
		return "(" + g.of("string", depth-1) + " + " + g.of("string", 0) + ")"
	case 2:
		return g.of("P", depth-1) + ".b"
	case 3:
		return "string(" + g.of("S", depth-1) + ")"
	case 4:
		return "(\"xy\" + " + g.of("string", depth-1) + ")[" + g.of("int", depth-1) + " & 1:]"
	case 5:
		return "kindOf(" + g.of("E", depth-1) + ")"
	case 6:
		return g.of("P", depth-1) + ".name()"
	}
	return g.of("Q", depth-1) + ".b"
}

func (g *grower) truth(depth int) string {
	if depth <= 0 {
		return pick(g.r, "true", "false")
	}
	switch g.r.IntN(8) {
	case 0, 1:
		return "(" + g.of("int", depth-1) + pick(g.r, " < ", " <= ", " > ", " >= ", " == ", " != ") + g.of("int", depth-1) + ")"
	case 2:
		return "(" + g.of("string", depth-1) + pick(g.r, " < ", " <= ", " == ", " != ") + g.of("string", depth-1) + ")"
	case 3:
		return "(" + g.of("bool", depth-1) + pick(g.r, " && ", " || ") + g.of("bool", depth-1) + ")"
	case 4:
		return "!" + g.of("bool", depth-1)
	case 5:
		return "(" + g.of("*P", depth-1) + pick(g.r, " == ", " != ") + g.of("*P", depth-1) + ")"
	case 6:
		return "(" + g.of(pick(g.r, "I", "[]int", "map[string]int", "func(int) int", "E", "*P"), depth-1) + pick(g.r, " == nil)", " != nil)")
	}
	return "(" + g.of("N", depth-1) + " == " + g.of("N", depth-1) + ")"
}

func (g *grower) struc(depth int) string {
	if depth <= 0 {
		return pick(g.r, "(P{})", "(P{b: \"l\"})", "(P{4, \"k\"})")
	}
	switch g.r.IntN(5) {
	case 0:
		return "(P{" + g.of("int", depth-1) + ", " + g.of("string", depth-1) + "})"
	case 1:
		return "(P{b: " + g.of("string", depth-1) + ", a: " + g.of("int", depth-1) + "})"
	case 2:
		return g.of("Q", depth-1) + ".P"
	case 3:
		return "made(" + g.of("int", depth-1) + ", " + g.of("string", depth-1) + ")"
	}
	return "(*" + pick(g.r, "(&P{"+g.of("int", depth-1)+", \"s\"})", "new(P)") + ")"
}

func (g *grower) pointer(depth int) string {
	if v := g.some("P"); v != "" && g.one(2) {
		return "(&" + v + ")"
	}
	if v := g.some("Q"); v != "" && g.one(2) {
		return pick(g.r, "(&"+v+".P)", v+".d")
	}
	return pick(g.r, "new(P)", "(&P{"+g.of("int", depth-1)+", \"n\"})")
}

// other are expressions of the rarer types.
func (g *grower) other(kind string, depth int) string {
	whole := func() string { return g.of("int", depth-1) }
	switch kind {
	case "N":
		return "N(" + whole() + ")"
	case "S":
		return "S(" + g.of("string", depth-1) + ")"
	case "Q":
		return "(Q{P: " + g.of("P", depth-1) + ", d: " + g.of("*P", depth-1) + "})"
	case "[]int":
		return "fill(make([]int, " + whole() + " & 3, 64), " + whole() + ")"
	case "map[string]int":
		return "(map[string]int{\"a\": " + whole() + ", \"b\" + " + g.of("string", depth-1) + ": " + whole() + "})"
	case "func(int) int":
		return "counter(" + whole() + ")"
	case "I":
		return pick(g.r, "I("+g.of("N", depth-1)+")", "I("+g.of("*P", depth-1)+")", "I(W{I: "+g.of("N", depth-1)+"})")
	case "E":
		return pick(g.r, "E("+g.of(pick(g.r, "int", "string", "bool", "N", "P", "*P", "[]int", "I"), depth-1)+")", "E(&"+g.of("Q", -1)+")")
	case "*Q":
		return "(&" + g.of("Q", depth-1) + ")"
	case "R":
		return "(R{" + g.of("*P", depth-1) + ", " + g.of("Q", depth-1) + ", " + g.of("map[string]int", depth-1) + ", " + g.of("func(int) int", depth-1) + "})"
	}
	return "(W{" + g.of("I", depth-1) + ", " + whole() + "})"
}

var kindNames = []string{"int", "int", "string", "bool", "P", "P", "*P", "Q", "Q", "*Q", "N", "S", "[]int", "[]int", "map[string]int", "func(int) int", "I", "E", "R", "W"}

func (g *grower) declare() {
	kind, v := pick(g.r, kindNames...), g.fresh()
	switch x := g.of(kind, 2); g.r.IntN(4) {
	case 0:
		g.put("var %s %s = %s", v, kind, x)
	case 1:
		if !strings.ContainsAny(kind, "*[f]IERW") { // nil ones would end most programs early
			g.put("var %s %s", v, kind)
			break
		}
		fallthrough
	default:
		if x == "0" || kind == "func(int) int" {
			g.put("var %s %s = %s", v, kind, x)
		} else {
			g.put("%s := %s", v, x)
		}
	}
	g.put("_ = %s", v)
	g.note(kind, v)
}

// places are some that can be assigned to, with their types.
func (g *grower) target() (string, string) {
	kind := pick(g.r, kindNames...)
	v := g.some(kind)
	if v == "" {
		return "", ""
	}
	more := map[string][][2]string{
		"P":              {{".a", "int"}, {".b", "string"}},
		"*P":             {{".a", "int"}, {".b", "string"}},
		"Q":              {{".a", "int"}, {".P", "P"}, {".P.b", "string"}, {".c", "[]int"}, {".d", "*P"}},
		"*Q":             {{".a", "int"}, {".P", "P"}, {".P.b", "string"}, {".c", "[]int"}, {".d", "*P"}},
		"R":              {{".a", "int"}, {".P", "*P"}, {".q", "Q"}, {".q.P.a", "int"}, {".m", "map[string]int"}, {".f", "func(int) int"}, {".q.d", "*P"}},
		"W":              {{".I", "I"}, {".x", "int"}},
		"map[string]int": {{"[" + g.of("string", 1) + "]", "int"}},
	}[kind]
	if len(more) == 0 || g.one(3) {
		return v, kind
	}
	m := pick(g.r, more...)
	return v + m[0], m[1]
}

func (g *grower) assign() {
	a, kind := g.target()
	if a == "" {
		return
	}
	b, other := g.target()
	switch {
	case g.one(4) && b != "" && a != b:
		g.put("%s, %s = %s, %s", a, b, g.of(kind, 2), g.of(other, 1))
	case kind == "int" && g.one(2):
		g.put("%s %s %s", a, pick(g.r, "+=", "-=", "*=", "^=", "|=", "&^="), g.of("int", 2))
	case kind == "int" && g.one(2):
		g.put("%s%s", a, pick(g.r, "++", "--"))
	case kind == "string":
		g.put("if len(%s) < 9 { %s += %s }", a, a, g.of("string", 1))
	default:
		g.put("%s = %s", a, g.of(kind, 2))
	}
}

// tell prints what a variable has.
func (g *grower) tell() {
	kind := pick(g.r, kindNames...)
	v := g.some(kind)
	if v == "" {
		g.put("print(%s, %s)", g.of("int", 2), g.of("string", 2))
		return
	}
	switch kind {
	case "int", "string", "bool", "N", "S":
		g.put("print(%s)", v)
	case "P", "*P":
		g.put("print(%s.a, %s.b)", v, v)
	case "Q", "*Q":
		g.put("print(%s.a, %s.P.b, len(%s.c), %s.d == nil)", v, v, v, v)
	case "R":
		g.put("print(%s.P == nil, %s.q.a, len(%s.m))", v, v, v)
	case "W":
		g.put("print(%s.x, %s.get())", v, v)
	case "[]int":
		g.put("print(len(%s)); for i, x := range %s { print(i, x) }", v, v)
	case "map[string]int":
		g.put("print(len(%s), %s[\"a\"], %s[\"b\"])", v, v, v)
	case "I":
		g.put("print(%s.get(), kindOf(%s))", v, v)
	case "E":
		g.put("print(kindOf(%s))", v)
	case "func(int) int":
		g.put("{ x := %s(2); print(x) }", v)
	}
}

func (g *grower) stmts(n, depth int) {
	for range n {
		g.stmt(depth)
	}
}

func (g *grower) stmt(depth int) {
	switch k := g.r.IntN(24); {
	case k < 5:
		g.declare()
	case k < 10:
		g.assign()
	case k < 13:
		g.tell()
	case k < 16:
		g.alias()
	case depth <= 0:
		g.call()
	case k < 18:
		g.branch(depth)
	case k < 21:
		g.loop(depth)
	case k < 23:
		g.closure(depth)
	default:
		g.risk()
	}
}

// call are calls that change things, as statements of their own.
func (g *grower) call() {
	v, w := g.fresh(), g.fresh()
	switch g.r.IntN(7) {
	case 0:
		g.put("poke(%s, %s)", g.of("*P", 1), g.of("int", 1))
	case 1:
		if f := g.some("func(int) int"); f != "" {
			g.put("%s := %s(%s); _ = %s", v, f, g.of("int", 1), v)
			g.note("int", v)
		}
	case 2:
		if q := g.some(pick(g.r, "Q", "*Q")); q != "" {
			g.put("%s, %s := %s.both(%s); _, _ = %s, %s", v, w, q, g.of("int", 1), v, w)
			g.note("int", v)
			g.note("P", w)
		}
	case 3:
		if p := g.some(pick(g.r, "P", "*P", "Q", "R", "I", "W")); p != "" {
			g.put("%s.set(%s)", p, g.of("int", 1))
		}
	case 4:
		g.put("%s, %s := pair(%s, %s); print(%s, %s)", v, w, g.of("int", 1), g.of("string", 1), v, w)
	case 5:
		if q := g.some("Q"); q != "" {
			g.put("%s := %s.grown(%s); _ = %s", v, q, g.of("int", 1), v)
			g.note("Q", v)
		}
	case 6:
		if m := g.some("map[string]int"); m != "" {
			g.put("delete(%s, %s); %s, %s := %s[%s]; print(%s, %s)", m, g.of("string", 1), v, w, m, g.of("string", 1), v, w)
		}
	}
}

// alias are pointers, slices and method values that share what others have.
func (g *grower) alias() {
	v, w := g.fresh(), g.fresh()
	switch g.r.IntN(10) {
	case 8:
		if q := g.some(pick(g.r, "Q", "*Q")); q != "" {
			g.put("%s.P.a = %s; %s := %s.P; %s := *(&%s); %s.a++; print(%s.a, %s.a, %s.a)", q, g.of("int", 1), v, q, w, q, q, v, w, q)
			g.note("P", v)
			if strings.HasPrefix(q, "v") && slices.Contains(g.vars["Q"], q) {
				g.note("Q", w)
			}
		}
	case 9:
		if q := g.some("Q"); q != "" {
			g.put("%s := make([]Q, 2, 9); %s := &%s[1].P.a; %s[0].a, %s[1] = %s, %s; *%s += 3; %s = append(%s, %s[1]); %s[2].P, %s[0] = %s[0].P, %s[2]; print(%s[0].a, *%s, %s[2].b, len(%s))", v, w, v, v, v, g.of("int", 1), q, w, v, v, v, v, v, v, v, v, w, v, v)
		}
	case 0:
		if p := g.some(pick(g.r, "P", "Q")); p != "" {
			g.put("%s := &%s.a; *%s += %s; print(*%s, %s.a)", v, p, v, g.of("int", 1), v, p)
		}
	case 1:
		if s := g.some("[]int"); s != "" {
			g.put("%s := %s[:len(%s) / 2]; %s = append(%s, %s); print(len(%s), len(%s))", v, s, s, v, v, g.of("int", 1), v, s)
			g.note("[]int", v)
		}
	case 2:
		if s := g.some("[]int"); s != "" {
			g.put("if len(%s) > 1 { copy(%s[1:], %s); %s := &%s[1]; *%s = %s; print(%s[1]) }", s, s, s, v, s, v, g.of("int", 1), s)
		}
	case 3:
		if p := g.some(pick(g.r, "P", "*P", "Q")); p != "" {
			g.put("%s := %s.get; %s.set(%s); print(%s(), %s.get())", v, p, p, g.of("int", 1), v, p)
		}
	case 4:
		if s := g.some("[]int"); s != "" {
			g.put("%s := []P{%s, P{}, %s}; %s := &%s[1]; %s[1], %s[0] = %s[0], %s[2]; print(%s.a, %s[0].b)", v, g.of("P", 1), g.of("P", 1), w, v, v, v, v, v, w, v)
		}
	case 5:
		if q := g.some("Q"); q != "" {
			g.put("%s := %s; %s := &%s.P; %s.a++; %s = %s; print(%s.a, %s.a)", v, q, w, q, v, q, v, w, v)
			g.note("Q", v)
			g.note("*P", w)
		}
	case 6:
		if e := g.some("E"); e != "" {
			g.put("%s, %s := %s.(%s); print(%s); _ = %s", v, w, e, pick(g.r, "int", "P", "I", "*P", "N"), w, v)
		}
	case 7:
		if s := g.some("[]int"); s != "" {
			g.put("if len(%s) > 0 { %s[%s & 1 %% len(%s)] %s %s }", s, s, g.of("int", 1), s, pick(g.r, "=", "+=", "^="), g.of("int", 1))
		}
	}
}

func (g *grower) branch(depth int) {
	switch g.r.IntN(4) {
	case 0:
		g.put("if %s := %s; %s {", "k", g.of("int", 1), pick(g.r, "k > 2", g.of("bool", 2)))
		g.put("_ = k")
		g.within(func() { g.note("int", "k"); g.stmts(2, depth-1) })
		g.put("} else if %s {", g.of("bool", 1))
		g.within(func() { g.stmts(1, depth-1) })
		g.put("} else {")
		g.within(func() { g.stmts(2, depth-1) })
		g.put("}")
	case 1:
		g.put("switch %s & 3 {", g.of("int", 2))
		for i := range 3 {
			g.put("case %d:", i)
			g.within(func() { g.stmts(1, depth-1) })
			if i < 2 && g.one(2) {
				g.put("fallthrough")
			}
		}
		g.put("default: print(\"d\") }")
	case 2:
		g.put("switch y := %s; { case %s: print(y); case y:", g.of("bool", 1), g.of("bool", 1))
		g.within(func() { g.stmts(2, depth-1) })
		g.put("}")
	case 3:
		g.put("switch x := %s.(type) { case *P: print(\"p\", x == nil); case N: print(x); case W: print(x.x); default: print(x == nil) }", g.of("I", 1))
	}
}

func (g *grower) loop(depth int) {
	if g.loops > 1 {
		return
	}
	g.loops++
	g.within(func() {
		i := fmt.Sprint("i", g.fresh())
		switch g.r.IntN(4) {
		case 0:
			g.put("for %s := range %d {", i, 1+g.r.IntN(4))
		case 1:
			g.put("L%s: for %s := 0; %s < %d; %s++ {\nfor j := range 3 { if j == %s { continue L%s }; if %s { break }; if %s == 9 { break L%s } }", i, i, i, 1+g.r.IntN(4), i, i, i, g.of("bool", 1), i, i)
		case 2:
			g.put("for %s, x := range %s { _ = x", i, g.of("[]int", 1))
			g.note("int", "x")
		case 3:
			g.put("for %s, c := range \"abc\" { print(int(c))", i)
		}
		g.note("int", i)
		g.stmts(2+g.r.IntN(2), depth-1)
		g.put("if %s > 1 { %s }", i, pick(g.r, "continue", "break", "print(\"on\")"))
		g.put("}")
	})
	g.loops--
}

// closure are funcs that hold variables.
func (g *grower) closure(depth int) {
	f := g.fresh()
	switch g.r.IntN(3) {
	case 0:
		g.put("%s := func(n int) int {", f)
		g.funcs++
		g.within(func() { g.note("int", "n"); g.stmts(2, depth-1) })
		g.funcs--
		g.put("return n + %s }", g.of("int", 1))
		g.put("_ = %s", f)
		if g.loops == 0 && g.funcs == 0 {
			g.put("print(%s(1))", f)
		}
	case 1:
		g.put("var %s []func() int; for i, n := 0, %s; i < 3; i++ { n += i; %s = append(%s, func() int { i += 10; n++; return i * n }) }; for _, f := range %s { x := f(); y := f(); print(x, y) }", f, g.of("int", 1), f, f, f)
	case 2:
		g.put("for _, x := range []int{1, 2} { %s := func() { x *= 2; print(x) }; %s(); %s() }", f, f, f)
	}
}

// risk are statements that may end the program; each has one fault at most.
func (g *grower) risk() {
	v := g.fresh()
	if !g.one(3) {
		return
	}
	switch g.r.IntN(8) {
	case 0:
		g.put("{ %s := %s & 1; print(5 / %s) }", v, g.of("int", 2), v)
	case 1:
		g.put("{ %s := %s & 3; print(%s[%s]) }", v, g.of("int", 1), g.of("[]int", 1), v)
	case 2:
		g.put("{ var %s *P; if %s { %s = new(P) }; print(%s.a) }", v, g.of("bool", 2), v, v)
	case 3:
		g.put("{ %s := %s; print(%s.(I) == nil) }", v, g.of("E", 1), v)
	case 4:
		g.put("{ %s := %s %% 4; print(1 << %s) }", v, g.of("int", 1), v)
	case 5:
		g.put("{ var %s I; if %s { %s = N(1) }; print(%s.get()) }", v, g.of("bool", 2), v, v)
	case 6:
		g.put("if %s { panic(\"stop\") }", g.of("bool", 3))
	case 7:
		g.put("{ %s := %s & 7; print((\"abcd\")[%s:]) }", v, g.of("int", 1), v)
	}
}

// someBody are the statements of a function by chance.
func someBody(r *rand.Rand) string {
	g := &grower{r: r, vars: map[string][]string{"int": {"total", "base"}, "string": {"spare0"}, "Q": {"shared"}, "P": {"spare"}}}
	g.put("print(total, base, spare.a, shared.d == &spare)")
	g.stmts(14+r.IntN(14), 2)
	for range 6 {
		g.tell()
	}
	return g.out.String()
}
