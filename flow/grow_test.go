package flow_test

import (
	"fmt"
	"math/rand/v2"
	"strings"

	"moniker/api"
)

func chance(seed uint64) *rand.Rand { return rand.New(rand.NewPCG(seed, 11)) }

func pick[T any](r *rand.Rand, l ...T) T { return l[r.IntN(len(l))] }

// grower writes functions by chance whose names are bound; their types are any.
type grower struct {
	r      *rand.Rand
	out    strings.Builder
	vars   []string // what is known
	here   int      // from which of them on the innermost scope has them
	count  int
	labels []string // of the function
	around []string // those of the labels that are around
	depth  int
	pack   string // a package that is imported; "": none
}

func (g *grower) one(n int) bool { return g.r.IntN(n) == 0 }

func (g *grower) put(parts ...string) {
	for _, s := range parts {
		g.out.WriteString(s)
	}
}

func (g *grower) fresh() string {
	g.count++
	return fmt.Sprintf("v%d", g.count)
}

// within writes with a scope of its own.
func (g *grower) within(write func()) {
	vars, here := len(g.vars), g.here
	g.here = vars
	write()
	g.vars, g.here = g.vars[:vars], here
}

func (g *grower) use() string {
	if len(g.vars) == 0 || g.one(5) {
		return pick(g.r, "1", "true", "nil", "outer", "_")
	}
	return pick(g.r, g.vars...)
}

func (g *grower) expr() {
	g.depth++
	defer func() { g.depth-- }()
	which := g.r.IntN(14)
	if g.depth > 5 {
		which = 13
	}
	switch which {
	case 0:
		g.put("(T{", pick(g.r, "v1", "v2", "v3", "a", "U"), ": ", g.use(), ", ", g.use(), ": ", g.use(), "})")
	case 1:
		g.put("(M{", pick(g.r, append(g.vars, "1")...), ": ", g.use(), "})")
	case 2:
		g.put("func() ", pick(g.r, "", "int "))
		g.literal()
	case 3:
		g.put("-(")
		g.expr()
		g.put(")")
	case 4:
		if g.pack != "" {
			g.put(g.pack, ".C")
			return
		}
		g.put("1")
	case 5:
		g.put("(S{", pick(g.r, append(g.vars, "outer", "q")...), ": 1})")
	case 6:
		if g.pack != "" && g.one(3) {
			g.put("(", pick(g.r, "T", "M"), "{", g.pack, ": 1})")
			return
		}
		g.put("2")
	default:
		g.put(g.use())
	}
}

// literal writes the Block of a FuncLit.
func (g *grower) literal() {
	labels, around := g.labels, g.around
	g.labels, g.around = nil, nil
	g.block()
	g.labels, g.around = labels, around
}

func (g *grower) block() {
	g.put("{ ")
	g.within(g.stmts)
	g.put("}")
}

func (g *grower) stmts() {
	for range g.r.IntN(4) {
		g.stmt()
		g.put(pick(g.r, "; ", "\n", "; ; "))
	}
	if g.one(3) {
		g.put(pick(g.r, "return", "panic(1)", "return; ;", "for { }", "{ return }"), "\n")
	}
}

func (g *grower) define() {
	name := g.fresh()
	names := []string{name}
	if len(g.vars) > g.here && g.one(3) {
		names = append(names, g.vars[g.here+g.r.IntN(len(g.vars)-g.here)])
	}
	if g.one(5) {
		names = append(names, "_")
	}
	g.put(strings.Join(names, ", "), " := ")
	g.expr()
	g.vars = append(g.vars, name)
}

func (g *grower) stmt() {
	g.depth++
	defer func() { g.depth-- }()
	which := g.r.IntN(22)
	if g.depth > 5 {
		which = g.r.IntN(8)
	}
	switch which {
	case 0, 1:
		g.define()
	case 2:
		g.put(pick(g.r, g.use(), "("+g.use()+")", "(("+g.use()+"))", g.use()+".a", "*"+g.use(), g.use()+", "+g.use(), g.use()+"[0]"), pick(g.r, " = ", " = ", " = ", " += ", " <<= "))
		g.expr()
	case 3:
		g.put("print(", g.use(), ", ")
		g.expr()
		g.put(")")
	case 4:
		g.put(g.use(), pick(g.r, "++", "--"))
	case 5:
		name := g.fresh()
		g.put(pick(g.r, "var ", "const ", "var "), name, " = 1")
		g.vars = append(g.vars, name)
	case 6:
		g.leave()
	case 7:
		g.put(pick(g.r, "return", "panic(2)", "(panic)(3)", "panic", "fallthrough", ""))
	case 8, 9, 10:
		g.ifs()
	case 11, 12:
		g.within(g.fors)
	case 13:
		g.within(g.ranges)
	case 14, 15, 16:
		g.within(g.switches)
	case 17:
		g.within(g.matches)
	case 18, 19:
		g.labelled()
	default:
		g.block()
	}
}

// leave writes a Break or Continue.
func (g *grower) leave() {
	names := append([]string{"", "", "", "_"}, g.around...)
	names = append(append(names, g.around...), g.labels...)
	g.put(pick(g.r, "break ", "break ", "continue "), pick(g.r, names...))
}

func (g *grower) labelled() {
	name := "_"
	if !g.one(6) {
		g.count++
		name = fmt.Sprintf("L%d", g.count)
		g.labels = append(g.labels, name)
	}
	kept := g.around
	if name != "_" {
		g.around = append(g.around[:len(g.around):len(g.around)], name)
	}
	g.put(name, ": ")
	switch g.r.IntN(4) {
	case 0:
		g.within(g.fors)
	case 1:
		g.within(g.switches)
	case 2:
		g.within(g.ranges)
	default:
		g.stmt()
	}
	g.around = kept
}

func (g *grower) ifs() {
	g.within(func() {
		g.put("if ")
		if g.one(3) {
			g.define()
			g.put("; ")
		}
		g.put("true ")
		g.block()
		switch g.r.IntN(3) {
		case 0:
			g.put(" else ")
			g.block()
		case 1:
			g.put(" else ")
			g.ifs()
		}
	})
}

func (g *grower) fors() {
	g.put("for ")
	switch g.r.IntN(4) {
	case 0:
		g.put(g.use(), " ")
	case 1:
		g.define()
		g.put("; ", pick(g.r, "", g.use()), "; ")
	}
	g.block()
}

func (g *grower) ranges() {
	a, b := g.fresh(), g.fresh()
	g.put("for ")
	switch g.r.IntN(4) {
	case 0:
		g.put(g.use(), " = range ", g.use(), " ")
	case 1:
		g.put(a, ", ", b, " := range ", g.use(), " ")
		g.vars = append(g.vars, a, b)
	case 2:
		g.put("_, ", b, " := range ", g.use(), " ")
		g.vars = append(g.vars, b)
	default:
		g.put("range 3 ")
	}
	g.block()
}

func (g *grower) clauses(what string, name string) {
	g.put("{ ")
	hasDefault := g.r.IntN(3)
	for i := range g.r.IntN(4) {
		if i == hasDefault {
			g.put("default: ")
		} else {
			g.put("case ", what, ": ")
		}
		g.within(func() {
			if name != "" {
				g.vars = append(g.vars, name)
			}
			g.stmts()
			g.put(pick(g.r, "", "", "return\n", "fallthrough\n", "fallthrough; ;"))
		})
	}
	g.put("}")
}

func (g *grower) switches() {
	g.put("switch ")
	if g.one(3) {
		g.define()
		g.put("; ")
	}
	g.put(g.use(), " ")
	g.clauses("1", "")
}

func (g *grower) matches() {
	g.put("switch ")
	if g.one(3) {
		g.define()
		g.put("; ")
	}
	name := ""
	if g.one(2) {
		name = g.fresh()
		g.put(name, " := ")
	}
	g.put("outer.(type) ")
	g.clauses("int", name)
}

// someFiles is a program of two packages by chance.
func someFiles(r *rand.Rand) []api.File {
	g := &grower{r: r}
	g.put("package main\n")
	g.pack = pick(r, "", "x", "y")
	g.put(pick(r, "", map[string]string{"": "", "x": "import \"x\"\n", "y": "import y \"x\"\n"}[g.pack]))
	if !strings.Contains(g.out.String(), "import") {
		g.pack = ""
	}
	g.put("type T struct { v1, v2, v3, a int; U }\ntype U struct { }\ntype S struct { q int }\ntype M map[string]int\nvar outer int\n")
	for range 1 + r.IntN(3) {
		g.count, g.vars, g.here, g.labels, g.around = 0, nil, 0, nil, nil
		param := pick(r, "p", "panic", "T2")
		g.vars = append(g.vars, param)
		if r.IntN(4) == 0 {
			g.put("var _ = func(", param, " int) ", pick(r, "", "int "))
		} else {
			g.put("func ", pick(r, "", "(t T) "), "_(", param, " int) ", pick(r, "", "int ", "(int, int) "))
		}
		g.block()
		g.put("\n")
	}
	return []api.File{{Name: "a", Text: g.out.String()}, {Name: "x/b", Text: "package x; const C = 1"}}
}
