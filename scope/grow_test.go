package scope_test

import (
	"math/rand/v2"
	"slices"
	"strings"

	"moniker/api"
)

func chance(seed uint64) *rand.Rand { return rand.New(rand.NewPCG(seed, 9)) }

// pool are the names that programs by chance have, few enough to meet each other.
var pool = []string{"a", "b", "c", "d", "e", "T", "U", "p", "q", "x", "y", "L", "é"}

// odds are names that a program can't always have where they stand.
var odds = []string{"main", "init", "iota", "int", "len", "nil", "string", "_", "z"}

// grower writes a program by chance: mostly names that are known, and new ones where they must be new.
type grower struct {
	r       *rand.Rand
	wild    int // one of so many names is any
	out     strings.Builder
	outer   []string // what the package declares
	isMain  bool
	imports []string
	scopes  [][]string
	labels  []string
	depth   int
}

func (g *grower) one(n int) bool { return g.r.IntN(n) == 0 }

func pick[T any](r *rand.Rand, l ...T) T { return l[r.IntN(len(l))] }

func (g *grower) put(parts ...string) {
	for _, s := range parts {
		g.out.WriteString(s)
	}
}

// use is a name that is mostly known.
func (g *grower) use() string {
	if g.one(g.wild) {
		if len(g.imports) > 0 && g.one(3) {
			return pick(g.r, g.imports...)
		}
		return pick(g.r, slices.Concat(pool, odds)...)
	}
	known := append([]string{"print", "true", "int", "nil"}, g.outer...)
	for _, s := range g.scopes {
		known = append(append(known, s...), s...)
	}
	return pick(g.r, known...)
}

// fresh is a name that the innermost scope mostly does not have; it has it then.
func (g *grower) fresh() string {
	last := len(g.scopes) - 1
	name := pick(g.r, pool...)
	for tries := 0; tries < 20 && slices.Contains(g.scopes[last], name); tries++ {
		name = pick(g.r, pool...)
	}
	switch {
	case g.one(g.wild):
		name = pick(g.r, append(slices.Clone(pool), odds...)...)
	case g.one(12):
		return "_"
	}
	return name
}

func (g *grower) know(names ...string) {
	last := len(g.scopes) - 1
	g.scopes[last] = append(g.scopes[last], names...)
}

func (g *grower) open(names ...string) { g.scopes = append(g.scopes, names) }

func (g *grower) shut() { g.scopes = g.scopes[:len(g.scopes)-1] }

// qualified is p.x, mostly of an import.
func (g *grower) qualified() string {
	if len(g.imports) == 0 || g.one(8) {
		return g.use() + "." + pick(g.r, pool...)
	}
	name := pick(g.r, "A", "B")
	if g.one(g.wild) {
		name = pick(g.r, slices.Concat(pool, odds)...)
	}
	return pick(g.r, g.imports...) + "." + name
}

func (g *grower) typeText() string {
	g.depth++
	defer func() { g.depth-- }()
	if g.depth > 6 {
		return g.use()
	}
	switch g.r.IntN(9) {
	case 0:
		return "*" + g.typeText()
	case 1:
		return "[]" + g.typeText()
	case 2:
		return "map[" + g.typeText() + "]" + g.typeText()
	case 3:
		return "func(" + g.typeText() + ") " + g.typeText()
	case 4:
		return g.qualified()
	}
	return g.use()
}

// expr writes an expression; a Composite in ( ), so that it may stand in headers.
func (g *grower) expr() {
	g.depth++
	defer func() { g.depth-- }()
	if g.depth > 5 {
		g.put(g.use())
		return
	}
	switch g.r.IntN(15) {
	case 0:
		g.put("1")
	case 1:
		g.put(g.qualified())
	case 2:
		g.expr()
		g.put(pick(g.r, " + ", " == ", "/**/<</* */"))
		g.expr()
	case 3:
		g.put(g.use(), "(")
		g.expr()
		g.put(", ")
		g.expr()
		g.put(")")
	case 4:
		g.put("(")
		g.expr()
		g.put(").", pick(g.r, pool...))
	case 5:
		g.put("(", pick(g.r, g.use(), g.qualified(), "[]"+g.typeText(), "map["+g.typeText()+"]"+g.typeText()), "{", pick(g.r, pool...), ": ")
		g.expr()
		g.put(", (", g.use(), "): 1, 2})")
	case 6:
		g.literal()
	case 7:
		g.put(g.use(), "[")
		g.expr()
		g.put("]")
	case 8:
		g.put(g.use(), ".(", g.typeText(), ")")
	case 9:
		g.put("&", g.use())
	case 10:
		if g.isMain && g.one(5) {
			g.put("main()")
		} else {
			g.put("-", g.use())
		}
	default:
		g.put(g.use())
	}
}

// literal writes a FuncLit.
func (g *grower) literal() {
	kept := g.labels
	g.labels = nil
	g.put("func")
	g.open()
	g.sig()
	g.put(" {")
	g.stmts()
	g.put("}")
	g.shut()
	g.labels = kept
}

// sig writes a Sig, whose parameters the innermost scope has then.
func (g *grower) sig() {
	g.put("(")
	var names []string
	for range g.r.IntN(3) {
		a := g.fresh()
		for slices.Contains(names, a) && !g.one(g.wild) {
			a = "_"
		}
		names = append(names, a)
		g.put(a, " ", g.typeText(), ", ")
	}
	g.put(") ", pick(g.r, "", "", g.typeText(), "("+g.typeText()+", int)"))
	g.know(names...)
}

func (g *grower) stmts() {
	for range g.r.IntN(4) {
		g.stmt()
		g.put(pick(g.r, "; ", "\n"))
	}
}

// block writes a Block with a scope of its own.
func (g *grower) block() {
	g.open()
	g.put("{ ")
	g.stmts()
	g.put("}")
	g.shut()
}

func (g *grower) stmt() {
	g.depth++
	defer func() { g.depth-- }()
	if g.depth > 4 {
		g.define()
		return
	}
	switch g.r.IntN(16) {
	case 0, 1:
		g.define()
	case 2:
		g.values(pick(g.r, "var", "const"))
	case 3:
		g.localType()
	case 4:
		g.ifs()
	case 5:
		g.fors()
	case 6:
		g.ranges()
	case 7:
		g.switches()
	case 8:
		g.matches()
	case 9:
		g.labelled()
	case 10:
		name := "_"
		if g.one(g.wild) {
			name = "L"
		}
		g.put(pick(g.r, "break ", "continue "), pick(g.r, append(g.labels, name)...))
	case 11:
		g.block()
	case 12:
		g.expr()
		g.put(" = ")
		g.expr()
	case 13:
		g.put("return ")
		g.expr()
	default:
		g.put("print(")
		g.expr()
		g.put(")")
	}
}

func (g *grower) define() {
	here := g.scopes[len(g.scopes)-1]
	names := []string{g.fresh()}
	for tries := 0; names[0] == "_" && tries < 5; tries++ {
		names[0] = g.fresh()
	}
	if len(here) > 0 && g.one(g.wild) {
		names[0] = pick(g.r, here...)
	}
	for range g.r.IntN(3) {
		b := pick(g.r, slices.Concat(pool[:4], here, here)...)
		if slices.Contains(names, b) && !g.one(g.wild) {
			b = "_"
		}
		names = append(names, b)
	}
	g.r.Shuffle(len(names), func(i, j int) { names[i], names[j] = names[j], names[i] })
	g.put(strings.Join(names, ", "), " := ")
	g.expr()
	g.know(names...)
}

func (g *grower) values(word string) {
	if g.one(3) {
		a, b := g.fresh(), g.fresh()
		for a == b {
			b = "_"
			if a == "_" {
				break
			}
		}
		g.put(word, " (", a, " = ")
		g.expr()
		g.know(a)
		last := "1"
		if word == "const" || g.one(g.wild) {
			last = "iota"
		}
		g.put("; ", b, " ", g.typeText(), " = ", last, "\n)")
		g.know(b)
		return
	}
	a := g.fresh()
	g.put(word, " ", a, " = ")
	if word == "const" && g.one(2) {
		g.put("iota + ")
	}
	g.expr()
	g.know(a)
}

func (g *grower) localType() {
	name := g.fresh()
	g.know(name)
	g.put("type ", name, " ")
	g.right()
}

// right writes the right side of a TypeSpec.
func (g *grower) right() {
	field := func() string {
		if g.one(g.wild) {
			return pick(g.r, odds...)
		}
		return pick(g.r, pool...)
	}
	switch g.r.IntN(3) {
	case 0:
		g.put("struct { ", field(), ", ", field(), " ", g.typeText(), "; ", g.use(), "; *", g.qualified(), " }")
	case 1:
		g.put("interface { ", field(), "(", g.typeText(), ") (", g.typeText(), "); ", pick(g.r, g.use(), g.qualified()), "\n}")
	default:
		g.put(g.typeText())
	}
}

// header writes the Simple of a header, mostly a Define.
func (g *grower) header() {
	if g.one(3) {
		return
	}
	g.define()
	g.put("; ")
}

func (g *grower) ifs() {
	g.open()
	g.put("if ")
	g.header()
	g.expr()
	g.put(" ")
	g.block()
	switch g.r.IntN(3) {
	case 0:
		g.put(" else ")
		g.block()
	case 1:
		g.put(" else ")
		g.ifs()
	}
	g.shut()
}

func (g *grower) fors() {
	g.open()
	g.put("for ")
	if g.one(2) {
		g.define()
	}
	g.put("; ")
	g.expr()
	g.put("; ", g.use(), "++ ")
	g.block()
	g.shut()
}

func (g *grower) ranges() {
	g.open()
	a, b := g.fresh(), g.fresh()
	if a == b && !g.one(g.wild) {
		b = "_"
	}
	sign := pick(g.r, " := ", "/**/:=// x\n", " = ")
	if sign == " = " {
		a, b = g.use(), g.use()
	}
	g.put("for ", pick(g.r, a+sign, a+", "+b+sign, ""), "range ")
	g.expr()
	g.put(" ")
	if sign != " = " {
		g.know(a, b)
	}
	g.block()
	g.shut()
}

// clauses writes those of a Switch or Match.
func (g *grower) clauses(name string, one func()) {
	g.put("{ ")
	for i := range g.r.IntN(4) {
		if i == 2 {
			g.put("default")
		} else {
			g.put("case ")
			one()
		}
		g.put(": ")
		g.open(name)
		g.stmts()
		g.shut()
	}
	g.put("}")
}

func (g *grower) switches() {
	g.open()
	g.put("switch ")
	g.header()
	g.expr()
	g.put(" ")
	g.clauses("print", g.expr)
	g.shut()
}

func (g *grower) matches() {
	g.open()
	g.put("switch ")
	g.header()
	name := g.fresh()
	if g.one(4) {
		name = "print"
	} else {
		g.put(name, " := ")
	}
	if g.one(2) {
		g.put(g.use())
	} else {
		g.put("(")
		g.expr()
		g.put(")")
	}
	g.put(".(type) ")
	g.clauses(name, func() { g.put(g.typeText(), ", ", pick(g.r, "nil", g.typeText())) })
	g.shut()
}

func (g *grower) labelled() {
	name := pick(g.r, "L", "M", "N", "a", "_", "T")
	if slices.Contains(g.labels, name) && !g.one(g.wild) {
		name = "_"
	}
	if g.one(g.wild) {
		name = pick(g.r, odds...)
	}
	g.put(name, ": ")
	if name != "_" {
		g.labels = append(g.labels, name)
	}
	g.stmt()
}

// top writes a declaration of the package.
func (g *grower) top(name string) {
	if g.one(4 * g.wild) {
		name = pick(g.r, append(slices.Clone(pool), odds...)...)
	}
	g.scopes, g.labels = [][]string{{}}, nil
	kind := g.r.IntN(8)
	if name == "main" && !g.one(g.wild) {
		g.put("func main() { ")
		g.stmts()
		g.put("}\n")
		return
	}
	switch kind {
	case 0:
		g.put("var ", name, " = ")
		g.expr()
	case 1:
		g.put("const ", name, " ", pick(g.r, "int ", ""), "= iota + ")
		g.expr()
	case 2, 3:
		g.put("type ", name, " ")
		g.right()
	case 4:
		g.put("func (", pick(g.r, g.fresh(), "_", ""), " ", pick(g.r, "", "*"), pick(g.r, g.use(), g.use(), g.qualified()), ") ", pick(g.r, pool...))
		g.function()
		g.put("\nvar ", name, " int")
	default:
		g.put("func ", name)
		g.function()
	}
	g.put("\n")
}

func (g *grower) function() {
	g.sig()
	g.put(" { ")
	g.stmts()
	g.put("}")
}

// someFile writes a file of a package that declares these names in it.
func someFile(r *rand.Rand, wild int, pack string, imports []string, all, here []string) string {
	g := &grower{r: r, wild: wild, isMain: pack == "main"}
	for _, name := range all {
		if name != "main" {
			g.outer = append(g.outer, name)
		}
	}
	g.put(pick(r, "", "// c\n"), "package ", pack, "\n")
	for _, path := range imports {
		name := path
		switch {
		case r.IntN(3) == 0:
			name = pick(r, "i", "j", "k")
			g.put("import ", name, " \"", path, "\"\n")
		case r.IntN(wild*2) == 0:
			name = pick(r, append(slices.Clone(pool), odds[:6]...)...)
			g.put("import ", name, " \"", path, "\"\n")
		default:
			g.put("import (\"", path, "\")\n")
			name = "pack" + path
		}
		g.imports = append(g.imports, name)
	}
	for _, name := range here {
		g.top(name)
	}
	for range r.IntN(2) {
		g.put("func init() { ")
		g.scopes = [][]string{{}}
		g.stmts()
		g.put("}\n")
	}
	return g.out.String()
}

// draft is a file that is still to be written: what its package declares, and what of that in it.
type draft struct {
	path, name, pack string
	all, here        []string
}

// someFiles is a program of up to three packages by chance.
func someFiles(r *rand.Rand, wild int) []api.File {
	var drafts []draft
	paths := []string{"", "m", "n"}[:1+r.IntN(3)]
	for n, path := range paths {
		all := slices.Clone(pool)
		r.Shuffle(len(all), func(i, j int) { all[i], all[j] = all[j], all[i] })
		all = append(all[:1+r.IntN(6)], "A", "B")
		pack := []string{"main", "packm", "packn"}[n]
		if n == 0 {
			all = append(all, "main")
		} else if r.IntN(wild*3) == 0 {
			pack = pick(r, "init", "a", "packm")
		}
		cut := r.IntN(len(all))
		drafts = append(drafts, draft{path, path + "/f", pack, all, all[:cut]}, draft{path, path + "/g", pack, all, all[cut:]})
	}
	r.Shuffle(len(drafts), func(i, j int) { drafts[i], drafts[j] = drafts[j], drafts[i] })
	var out []api.File
	for _, d := range drafts {
		var imports []string
		for _, path := range paths {
			if d.path < path && r.IntN(3) > 0 {
				imports = append(imports, path)
			}
		}
		out = append(out, api.File{Name: d.name, Text: someFile(r, wild, d.pack, imports, d.all, d.here)})
	}
	return out
}
