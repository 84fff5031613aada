package check_test

import (
	"fmt"
	"math/rand/v2"
	"slices"
	"strings"

	"moniker/api"
)

func chance(seed uint64) *rand.Rand { return rand.New(rand.NewPCG(seed, 12)) }

func pick[T any](r *rand.Rand, l ...T) T { return l[r.IntN(len(l))] }

// prelude are the types of programs by chance.
const prelude = `package main
type T int
type U string
type B bool
type S struct { a int; b string; next *S }
type R struct { r T }
type E struct { S; t T; *R }
type I interface { m() int }
type J interface { I; n(int) string }
type Any interface { }
type L []int
type M map[string]S
type F func(int) int
func (s S) m() int { return s.a }
func (e *E) n(a int) string { return e.b }
func (t T) m() int { return int(t) }
func (t T) n(a int) string { return "t" }
func (r *R) q(t T) { r.r = t }
type E2 int
func (e E2) m() int { return 1 }
func (e E2) n(a int) string { return "" }
`

// kinds are the types that expressions are written of.
var kinds = []string{"int", "string", "bool", "T", "U", "B", "S", "*S", "E", "*E", "*R", "[]int", "[]T", "L", "map[string]int", "map[T]string", "M", "I", "J", "Any", "func(int) int", "F", "func()"}

// variable is a name with its type.
type variable struct{ name, kind string }

// function is a name with its parameters and results.
type function struct {
	name            string
	params, results []string
}

// grower writes a program by chance, of which all is right but where it is wild.
type grower struct {
	r      *rand.Rand
	wild   int // one of so many expressions is any
	out    strings.Builder
	vars   []variable
	local  int // how many names were given
	funcs  []function
	consts []variable
	result []string
	depth  int
	loops  int
}

func (g *grower) one(n int) bool { return g.r.IntN(n) == 0 }

func (g *grower) put(parts ...string) {
	for _, s := range parts {
		g.out.WriteString(s)
	}
}

func (g *grower) fresh() string {
	g.local++
	return fmt.Sprintf("v%d", g.local)
}

// known are the variables of a type; of an interface type those that satisfy it too.
func (g *grower) known(kind string) []string {
	var out []string
	for _, v := range g.vars {
		if v.kind == kind {
			out = append(out, v.name)
		}
	}
	return out
}

// expr is an expression of a type, or, where it is wild, of any.
func (g *grower) expr(kind string) string {
	g.depth++
	defer func() { g.depth-- }()
	if g.one(g.wild) {
		return g.plain(pick(g.r, kinds...))
	}
	if l := g.known(kind); len(l) > 0 && (g.depth > 4 || g.one(3)) {
		return pick(g.r, l...)
	}
	if g.depth > 4 {
		return g.plain(kind)
	}
	if g.one(5) {
		if s := g.call(kind); s != "" {
			return s
		}
	}
	switch g.r.IntN(9) {
	case 0:
		return "(" + g.expr(kind) + ")"
	case 1:
		return g.member(kind)
	case 2, 3, 4, 5:
		return g.operation(kind)
	}
	return g.plain(kind)
}

// plain is an expression of a type that needs nothing.
func (g *grower) plain(kind string) string {
	if l := g.known(kind); len(l) > 0 && g.one(2) {
		return pick(g.r, l...)
	}
	var constants []string
	for _, c := range g.consts {
		if c.kind == kind {
			constants = append(constants, c.name)
		}
	}
	if len(constants) > 0 && g.one(3) {
		return pick(g.r, constants...)
	}
	switch kind {
	case "int", "T":
		return pick(g.r, "1", "2", "'a'", "0x10", kind+"(3)", "(4)", kind+"(len(\"abc\"))")
	case "string", "U":
		return pick(g.r, `"a"`, "`b`", kind+`("c")`, `""`)
	case "bool":
		return pick(g.r, "true", "false", "1 < 2")
	case "B":
		return pick(g.r, "true", "B(false)")
	case "S":
		return pick(g.r, "S{}", `S{1, "a", nil}`, "S{a: 2, next: nil}", `S{b: "x"}`)
	case "E":
		return pick(g.r, "E{}", "E{S: S{}, t: 1}", "E{S{}, 1, nil}", "E{R: &R{}}")
	case "*S", "*E", "*R":
		return pick(g.r, "nil", "&"+kind[1:]+"{}", "new("+kind[1:]+")", "("+kind+")(nil)")
	case "[]int", "[]T", "L":
		return pick(g.r, "nil", kind+"{1, 2}", "make("+kind+", 1)", kind+"{3: 1, 2, 0: 5}")
	case "map[string]int", "map[T]string", "M":
		return pick(g.r, "nil", kind+"{}", "make("+kind+")")
	case "I":
		return pick(g.r, "nil", "T(1)", "S{}", "&S{}", "I(nil)", "E{}")
	case "J":
		return pick(g.r, "nil", "T(2)", "&E{}")
	case "Any":
		return pick(g.r, "nil", "1", `"a"`, "S{}", "true", "[]int{}", "T(1)")
	case "func()":
		return pick(g.r, "nil", "func() { }")
	}
	return pick(g.r, "nil", "func(x int) int { return x }")
}

// call is a call of a function with one result of the type; "": there is none.
func (g *grower) call(kind string) string {
	var fit []function
	for _, f := range g.funcs {
		if len(f.results) == 1 && f.results[0] == kind {
			fit = append(fit, f)
		}
	}
	if len(fit) == 0 {
		return ""
	}
	return g.callOf(pick(g.r, fit...))
}

// callOf is a call of a function.
func (g *grower) callOf(f function) string {
	for _, by := range g.funcs {
		if len(f.params) > 1 && slices.Equal(by.results, f.params) && g.one(3) {
			return f.name + "(" + g.plainCall(by) + ")"
		}
	}
	return g.plainCall(f)
}

// plainCall is a call with an expression for each parameter.
func (g *grower) plainCall(f function) string {
	var args []string
	for _, p := range f.params {
		args = append(args, g.expr(p))
	}
	if g.one(4 * g.wild) {
		args = append(args, "1")
	}
	return f.name + "(" + strings.Join(args, ", ") + ")"
}

// member is a field, an element, or what a method gives.
func (g *grower) member(kind string) string {
	switch kind {
	case "int":
		return pick(g.r, g.base("S")+".a", g.base("*S")+".a", g.base("E")+".a", g.index("[]int"), g.index("L"), g.base("map[string]int")+"["+g.expr("string")+"]", g.base("I")+".m()", g.base("S")+".m()", g.base("*E")+".m()", "S.m("+g.expr("S")+")", "I.m("+g.expr("I")+")", "(*E).m("+g.expr("*E")+")")
	case "string":
		return pick(g.r, g.base("S")+".b", g.base("E")+".S.b", g.base("map[T]string")+"["+g.expr("T")+"]", g.base("J")+".n("+g.expr("int")+")", g.base("T")+".n(1)", g.base("*E")+".n(2)", "(*E).n("+g.expr("*E")+", 3)")
	case "T":
		return pick(g.r, g.base("E")+".t", g.base("*E")+".r", g.base("*R")+".r", g.index("[]T"))
	case "S":
		return pick(g.r, g.base("E")+".S", "*"+g.base("*S"), g.base("M")+"["+g.expr("string")+"]", "(*"+g.base("*E")+").S")
	case "*S":
		return pick(g.r, g.base("S")+".next", g.base("*S")+".next.next", g.base("*E")+".next")
	case "*R":
		return g.base("E") + ".R"
	case "E":
		return "*" + g.base("*E")
	case "I", "J", "*E":
		if kind != "J" && g.one(2) {
			return g.base("J") + ".(" + kind + ")"
		}
		return g.base("Any") + ".(" + kind + ")"
	case "func()":
		return g.expr(kind)
	}
	return g.expr(kind)
}

func (g *grower) paren(kind string) string { return "(" + g.expr(kind) + ")" }

// base is what a member may be selected of; nil may not.
func (g *grower) base(kind string) string {
	if l := g.known(kind); len(l) > 0 && g.one(2) {
		return pick(g.r, l...)
	}
	s := kind + "(" + g.expr(kind) + ")"
	if kind == "string" || kind == "U" { // Go converts numbers to them
		s = "(" + kind + "(\"\") + " + g.expr(kind) + ")"
	}
	if strings.HasPrefix(kind, "*") {
		s = "(" + kind + ")(" + g.expr(kind) + ")"
	}
	if strings.HasPrefix(kind, "func") {
		s = "[]" + kind + "{" + g.expr(kind) + "}[0]"
	}
	return s
}

func (g *grower) index(kind string) string {
	return kind + "(" + g.expr(kind) + ")[" + pick(g.r, "0", "1", g.variable("int"), g.variable("T")) + "]"
}

// variable is a variable of a type, or a place that is like one.
func (g *grower) variable(kind string) string {
	if l := g.known(kind); len(l) > 0 {
		return pick(g.r, l...)
	}
	if strings.HasPrefix(kind, "func") {
		return "[]" + kind + "{nil}[0]"
	}
	return "(*new(" + kind + "))"
}

// operation is an operator, a conversion or a universe function.
func (g *grower) operation(kind string) string {
	switch kind {
	case "int", "T":
		switch g.r.IntN(8) {
		case 0, 1:
			return g.expr(kind) + pick(g.r, " + ", " - ", " & ", " | ", " ^ ", " &^ ") + g.expr(kind)
		case 2:
			return g.paren(kind) + pick(g.r, " / ", " % ") + pick(g.r, "3", g.variable(kind))
		case 3:
			return g.variable(kind) + pick(g.r, " << ", " >> ") + pick(g.r, "2", g.variable("int"), g.variable("T"))
		case 4:
			return pick(g.r, "-", "^", "+") + g.paren(kind)
		case 5:
			return kind + "(" + g.expr(pick(g.r, "int", "T")) + ")"
		case 6:
			if kind == "int" {
				return "len(" + pick(g.r, g.variable("string"), g.variable("U"), g.base("[]int"), g.base("M"), g.base("L")) + ")"
			}
		}
	case "string", "U":
		return pick(g.r, g.expr(kind)+" + "+g.expr(kind), kind+"("+g.variable(pick(g.r, "string", "U"))+")", g.variable(kind)+"[1:2]")
	case "bool":
		switch of := pick(g.r, "int", "string", "T", "U", "*S", "bool", "B"); g.r.IntN(5) {
		case 0:
			return g.paren("bool") + pick(g.r, " && ", " || ") + g.paren("bool")
		case 1:
			return "!" + g.paren("bool")
		case 2:
			return g.variable(pick(g.r, "*S", "[]int", "M", "I", "Any", "F", "func()")) + pick(g.r, " == nil", " != nil")
		case 3:
			return g.variable(of) + pick(g.r, " == ", " != ") + g.paren(of)
		default:
			of = pick(g.r, "int", "string", "T", "U")
			return g.paren(of) + pick(g.r, " < ", " <= ", " > ", " >= ", " == ", " != ") + g.paren(of)
		}
	case "*S", "*E", "*R":
		return "&" + pick(g.r, g.variable(kind[1:]), kind[1:]+"{}")
	case "[]int", "L", "[]T":
		return pick(g.r, "append("+g.variable(kind)+", "+g.expr(map[string]string{"[]int": "int", "L": "int", "[]T": "T"}[kind])+")", g.variable(kind)+"[:1]", kind+"("+g.expr(kind)+")", "append("+g.variable(kind)+", "+g.variable(kind)+"...)")
	case "F", "func(int) int":
		n := g.fresh()
		return "func(" + n + " int) int { return " + n + " + " + g.variable("int") + " }"
	case "I":
		return "I(" + g.base(pick(g.r, "T", "S", "*E", "J", "E")) + ")"
	case "J":
		return "J(" + g.base(pick(g.r, "T", "*E")) + ")"
	}
	return g.plain(kind)
}

// stmts writes some statements.
func (g *grower) stmts(n int) {
	kept := len(g.vars)
	for range g.r.IntN(n) {
		g.stmt()
		g.put("\n")
	}
	g.vars = g.vars[:kept]
}

func (g *grower) block() {
	g.put("{\n")
	g.stmts(3)
	g.put("}")
}

// use writes a statement that uses a variable.
func (g *grower) use(name string) {
	if !g.one(4 * g.wild) {
		g.put("; _ = ", name)
	}
}

func (g *grower) know(name, kind string) { g.vars = append(g.vars, variable{name, kind}) }

func (g *grower) stmt() {
	g.depth++
	defer func() { g.depth-- }()
	kind := pick(g.r, kinds...)
	which := g.r.IntN(18)
	if g.depth > 3 {
		which = g.r.IntN(7)
	}
	switch which {
	case 0, 1:
		name := g.fresh()
		if g.one(2) {
			g.put("var ", name, " ", kind, " = ", g.expr(kind))
		} else {
			g.put(name, " := ", g.base(kind))
		}
		g.use(name)
		g.know(name, kind)
	case 2:
		g.put(g.place(kind), " = ", g.expr(kind))
	case 3:
		kind = pick(g.r, "int", "T")
		g.put(g.place(kind), pick(g.r, " += ", " -= ", " *= ", " &= ", " <<= "), pick(g.r, "2", g.variable(kind)))
	case 4:
		g.put(g.place(pick(g.r, "int", "T")), pick(g.r, "++", "--"))
	case 5:
		g.put("print(", g.base(pick(g.r, "int", "string", "bool", "T", "U", "B")), ")")
	case 6:
		g.callStmt()
	case 7:
		g.ifs()
	case 8:
		g.fors()
	case 9:
		g.ranges()
	case 10, 11:
		g.switches()
	case 12:
		g.matches()
	case 13:
		g.several()
	case 14:
		g.put("return ")
		for i, k := range g.result {
			if i > 0 {
				g.put(", ")
			}
			g.put(g.expr(k))
		}
	case 15:
		if g.loops > 0 {
			g.put(pick(g.r, "break", "continue"))
		}
	case 16:
		name := g.fresh()
		kind = pick(g.r, "int", "string", "T")
		g.put("const ", name, " ", kind, " = ", g.constant(kind))
		g.consts = append(g.consts, variable{name, kind})
		g.consts = g.consts[:len(g.consts)-1]
	default:
		g.block()
	}
}

// constant is a constant expression of a type.
func (g *grower) constant(kind string) string {
	if kind == "string" {
		return pick(g.r, `"a" + "b"`, `"c"`)
	}
	return pick(g.r, "1 + 2*3", "'a' - 5", "1 << 4 >> 2", "-7 / 2", "-(3 + 4) % 5", "^6 &^ 3", kind+"(len(\"abc\") | 8)", kind+"(9) * 2")
}

// place is what may be assigned to.
func (g *grower) place(kind string) string {
	if kind == "int" && g.one(3) {
		return pick(g.r, g.variable("[]int")+"[0]", g.variable("S")+".a", g.variable("E")+".a", g.variable("*S")+".a", g.variable("map[string]int")+"[\"a\"]")
	}
	if g.one(4 * g.wild) {
		return g.plain(kind)
	}
	return g.variable(kind)
}

func (g *grower) callStmt() {
	if len(g.funcs) > 0 {
		g.put(g.callOf(pick(g.r, g.funcs...)))
		return
	}
	g.put("copy(", g.variable("[]int"), ", ", g.variable("L"), ")")
}

func (g *grower) ifs() {
	kept := len(g.vars)
	g.put("if ")
	if g.one(3) {
		name := g.fresh()
		g.put(name, " := ", g.variable("int"), "; ", name, " > 0 ")
		g.know(name, "int")
	} else {
		g.put("(", g.expr(pick(g.r, "bool", "bool", "B")), ") ")
	}
	g.block()
	switch g.r.IntN(3) {
	case 0:
		g.put(" else ")
		g.block()
	case 1:
		g.put(" else ")
		g.ifs()
	}
	g.vars = g.vars[:kept]
}

func (g *grower) fors() {
	kept := len(g.vars)
	g.loops++
	if g.one(2) {
		name := g.fresh()
		g.know(name, "int")
		g.put("for ", name, " := 0; ", name, " < 3; ", name, "++ ")
	} else {
		g.put("for (", g.expr("bool"), ") ")
	}
	g.block()
	g.loops--
	g.vars = g.vars[:kept]
}

func (g *grower) ranges() {
	kept := len(g.vars)
	g.loops++
	over := pick(g.r, []string{"[]int", "int", "int"}, []string{"[]T", "int", "T"}, []string{"M", "string", "S"}, []string{"map[T]string", "T", "string"}, []string{"T", "T", ""}, []string{"int", "int", ""})
	a, b, what := g.fresh(), g.fresh(), g.base(over[0])
	g.put("for ", a)
	g.know(a, over[1])
	if over[2] != "" && g.one(2) || g.one(4*g.wild) {
		g.put(", ", b)
		if over[2] != "" {
			g.know(b, over[2])
		}
	} else {
		b = "1"
	}
	g.put(" := range (", what, ") {\n_, _ = ", a, ", ", b, "\n")
	g.stmts(3)
	g.put("}")
	g.loops--
	g.vars = g.vars[:kept]
}

func (g *grower) switches() {
	kind := pick(g.r, "int", "string", "T", "U", "")
	g.put("switch ")
	if kind != "" {
		g.put("(", g.base(kind), ")")
	}
	g.put(" {\n")
	count := g.r.IntN(4)
	for i := range count {
		if i == 1 && g.one(2) {
			g.put("default:\n")
		} else if kind == "" {
			g.put("case ", g.variable("bool"), ":\n")
		} else {
			g.put("case ", pick(g.r, g.variable(kind), g.base(kind)), ", ", g.variable(kind), ":\n")
		}
		g.stmts(3)
		if i < count-1 && g.one(4) {
			g.put("fallthrough\n")
		}
	}
	g.put("}")
}

func (g *grower) matches() {
	face := pick(g.r, "I", "J", "Any")
	name := g.fresh()
	g.put("switch ", name, " := ", g.base(face), ".(type) {\n")
	for i, k := range []string{pick(g.r, "T", "*E"), pick(g.r, "I", "Any"), "nil", pick(g.r, "S", "int", "J")} {
		if (k == "S" || k == "int") && face != "Any" && !g.one(g.wild) || g.one(3) {
			continue
		}
		g.put("case ", k)
		kept := len(g.vars)
		isMany := i == 3 && g.one(2)
		if isMany {
			g.put(", *E2")
		}
		g.put(":\n")
		if k == "nil" || isMany {
			k = face
		}
		g.know(name, k)
		g.put("_ = ", name, "\n")
		g.stmts(3)
		g.vars = g.vars[:kept]
	}
	g.put("default:\n_ = ", name, "\n}")
}

// several writes a statement with more than one on the left.
func (g *grower) several() {
	a, b := g.fresh(), g.fresh()
	switch g.r.IntN(4) {
	case 0:
		g.put(a, ", ", b, " := ", g.variable("map[string]int"), "[", g.expr("string"), "]; _, _ = ", a, ", ", b)
		g.know(a, "int")
		g.know(b, "bool")
	case 1:
		g.put("var ", a, ", ", b, " = ", g.base("Any"), ".(T); _, _ = ", a, ", ", b)
		g.know(a, "T")
		g.know(b, "bool")
	case 2:
		g.put(g.place("int"), ", ", g.place("string"), " = ", g.expr("int"), ", ", g.expr("string"))
	default:
		for _, f := range g.funcs {
			if len(f.results) == 2 {
				g.put(a, ", ", b, " := ", g.callOf(f), "; _, _ = ", a, ", ", b)
				g.know(a, f.results[0])
				g.know(b, f.results[1])
				return
			}
		}
		g.put(";")
	}
}

// function writes a function.
func (g *grower) function(f function) {
	kept := len(g.vars)
	g.put("func ", f.name, "(")
	for _, p := range f.params {
		name := g.fresh()
		g.put(name, " ", p, ", ")
		g.know(name, p)
	}
	g.put(") (", strings.Join(f.results, ", "), ") {\n")
	g.result = f.results
	g.stmts(7)
	g.put("return ")
	for i, k := range f.results {
		if i > 0 {
			g.put(", ")
		}
		g.put(g.expr(k))
	}
	g.put("\n}\n")
	g.vars = g.vars[:kept]
}

// someKinds are a few types.
func someKinds(r *rand.Rand, least, most int) []string {
	var out []string
	for range least + r.IntN(most-least+1) {
		out = append(out, pick(r, kinds...))
	}
	return out
}

// someFiles is a program of one package in two files, by chance.
func someFiles(r *rand.Rand, wild int) []api.File {
	g := &grower{r: r, wild: wild}
	for i := range 3 + r.IntN(3) {
		g.funcs = append(g.funcs, function{fmt.Sprintf("f%d", i), someKinds(r, 0, 3), someKinds(r, 1, 2)})
	}
	for i := range 4 + r.IntN(4) {
		g.vars = append(g.vars, variable{fmt.Sprintf("g%d", i), pick(r, kinds...)})
	}
	for i, k := range []string{"int", "T", "string"} {
		g.consts = append(g.consts, variable{fmt.Sprintf("k%d", i), k})
	}
	var parts []string
	part := func() {
		parts = append(parts, g.out.String())
		g.out.Reset()
	}
	for i, c := range g.consts {
		g.put("const ", c.name, " ", c.kind, " = ", g.constant(c.kind))
		if i == 0 && g.one(2) {
			g.put(" + ", pick(r, "'a'", "len(k2)", "int(k1)"))
		}
		g.put("\n")
		part()
	}
	for i, v := range g.vars {
		all, funcs := g.vars, g.funcs
		g.vars = slices.Clone(all[i+1:]) // those that stand behind, so that few need themselves
		if g.one(10) {
			g.vars = all
		}
		if !g.one(5) {
			g.funcs = nil
		}
		switch g.r.IntN(4) {
		case 0:
			g.put("var ", v.name, " ", v.kind, "\n")
		case 1:
			g.put("var ", v.name, " ", v.kind, " = ", g.expr(v.kind), "\n")
		default:
			g.put("var ", v.name, " = ", g.base(v.kind), "\n")
		}
		g.vars, g.funcs = all, funcs
		part()
	}
	for _, f := range g.funcs {
		g.function(f)
		part()
	}
	g.result = nil
	g.put("func main() {\n")
	g.stmts(8)
	g.put("}\n")
	part()
	r.Shuffle(len(parts), func(i, j int) { parts[i], parts[j] = parts[j], parts[i] })
	cut := r.IntN(len(parts))
	return []api.File{
		{Name: "a.go", Text: prelude + strings.Join(parts[:cut], "")},
		{Name: "b.go", Text: "package main\n" + strings.Join(parts[cut:], "")},
	}
}
