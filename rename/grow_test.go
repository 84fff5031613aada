package rename_test

import (
	"fmt"
	"math/rand/v2"
	"slices"
	"strings"

	"moniker/api"
	"moniker/xref"
)

// pool are the few names that programs by chance have: so members, types, variables and labels often share one.
var pool = []string{"A", "B", "C", "D", "E", "F"}

// methods are, by their names, what methods have as parameters and results, so that they mostly satisfy interface types; a body's end, and what they are called with.
var methods = map[string]struct{ params, shape, end, args string }{
	"A": {"()", "()", "", "()"},
	"B": {"(n int) string", "(int) string", "return \"b\"", "(1)"},
	"C": {"(n int, s string)", "(int, string)", "", "(2, \"c\")"},
	"D": {"() (int, bool)", "() (int, bool)", "return 4, true", "()"},
	"E": {"()", "()", "", "()"},
	"F": {"() int", "() int", "return 6", "()"},
}

// grown is a declared type of a program by chance.
type grown struct {
	pack       int
	name, kind string // kind: struct, interface, or the right side
	embeds     []*grown
	stars      []string
	fields     []string
	own        []string // the names of its methods
}

// plant is a program by chance: packages main, x and x/y; x imports x/y, main both. Methods print whose they are, so that a run shows which one was called.
type plant struct {
	*rand.Rand
	table *xref.Whole // of the types alone
	types []*grown
	taken [3][]string
	lines [3][]string
}

func (p *plant) one(n int) bool { return p.IntN(n) == 0 }

func (p *plant) named(t *grown, from int) string {
	if t.pack == from {
		return t.name
	}
	return []string{"", "x", "q"}[t.pack] + "." + t.name
}

// free is a package-level name that is not taken; "": all are.
func (p *plant) free(pack int) string {
	for _, i := range p.Perm(len(pool)) {
		if !slices.Contains(p.taken[pack], pool[i]) {
			p.taken[pack] = append(p.taken[pack], pool[i])
			return pool[i]
		}
	}
	return ""
}

// members are the names that a type has of its own.
func (t *grown) members() []string {
	out := append(slices.Clone(t.fields), t.own...)
	if t.kind == "struct" {
		for _, e := range t.embeds {
			out = append(out, e.name)
		}
	}
	return out
}

// growType makes a type; what it embeds was made ahead of it, so that none needs itself.
func (p *plant) growType(pack int) {
	t := &grown{pack: pack, name: p.free(pack), kind: pick(p.Rand, "struct", "struct", "struct", "interface", "interface", "int", "string")}
	if t.name == "" {
		return
	}
	for range p.IntN(3) {
		if len(p.types) == 0 || t.kind == "int" || t.kind == "string" {
			break
		}
		e := pick(p.Rand, p.types...)
		if e.pack < pack || t.kind == "interface" && e.kind != "interface" || slices.Contains(t.embeds, e) || t.kind == "struct" && slices.Contains(t.members(), e.name) {
			continue
		}
		t.embeds = append(t.embeds, e)
		t.stars = append(t.stars, map[bool]string{true: "*"}[t.kind == "struct" && e.kind != "interface" && p.one(2)])
	}
	for range p.IntN(4) {
		if name := pick(p.Rand, pool...); !slices.Contains(t.members(), name) {
			if t.kind == "struct" && p.one(2) {
				t.fields = append(t.fields, name)
			} else {
				t.own = append(t.own, name)
			}
		}
	}
	p.types = append(p.types, t)
	p.write(t)
}

// write puts down the lines of a type and its methods.
func (p *plant) write(t *grown) {
	var parts, lines []string
	for i, e := range t.embeds {
		parts = append(parts, t.stars[i]+p.named(e, t.pack))
	}
	for i, name := range t.fields {
		parts = append(parts, name+" "+[]string{"int", "string"}[i%2])
	}
	for _, name := range t.own {
		m := methods[name]
		if t.kind == "interface" {
			parts = append(parts, name+m.shape)
			continue
		}
		lines = append(lines, fmt.Sprintf("func (%s%s%s) %s%s { print(%q); %s }", pick(p.Rand, "r ", "", "_ ", name+" "), pick(p.Rand, "", "*"), t.name, name, m.params, t.name+"."+name, m.end))
	}
	p.Shuffle(len(parts), func(i, j int) { parts[i], parts[j] = parts[j], parts[i] })
	right := t.kind
	if t.kind == "struct" || t.kind == "interface" {
		right += " { " + strings.Join(parts, "; ") + " }"
	}
	p.lines[t.pack] = append(p.lines[t.pack], append(lines, "type "+t.name+" "+right)...)
}

// number is a type's in the table.
func (p *plant) number(t *grown) int {
	for d, decl := range p.table.Scopes().Decls() {
		if decl.Kind == api.DeclType && decl.Name == t.name && p.table.Program().Packs()[decl.Pack].Name == []string{"main", "x", "y"}[t.pack] {
			return p.table.Table().Named(d)
		}
	}
	panic(t.name)
}

// value is an expression of a type, as it is written in a package.
func (p *plant) value(t *grown, from, depth int) string {
	named := p.named(t, from)
	switch t.kind {
	case "int":
		return named + "(3)"
	case "string":
		return named + "(\"t\")"
	case "interface":
		table := p.table.Table()
		for _, i := range p.Perm(len(p.types)) {
			x := p.types[i]
			if id := p.number(x); x.pack < from || x.kind == "interface" || depth < 0 {
				continue
			} else if table.Satisfies(id, p.number(t)) && p.one(2) {
				return named + "(" + p.value(x, from, depth-1) + ")"
			} else if table.Satisfies(table.Pointer(id), p.number(t)) {
				return named + "(" + p.pointer(x, from, depth-1) + ")"
			}
		}
		return named + "(nil)"
	}
	var parts []string
	for i, e := range t.embeds {
		if p.one(8) || depth < 0 {
			continue // an embedded * is nil then
		}
		x := p.value(e, from, depth-1)
		if t.stars[i] == "*" {
			x = p.pointer(e, from, depth-1)
		}
		parts = append(parts, e.name+": "+x)
	}
	for i, name := range t.fields {
		if p.one(2) {
			parts = append(parts, name+": "+[]string{"5", "\"f\""}[i%2])
		}
	}
	return "(" + named + "{" + strings.Join(parts, ", ") + "})"
}

func (p *plant) pointer(t *grown, from, depth int) string {
	if t.kind != "struct" || p.one(5) {
		return "new(" + p.named(t, from) + ")"
	}
	return "&" + p.value(t, from, depth)
}

// teller is a function that shows what lies in an interface value: of which type it is, and what the interface types that it satisfies call.
func (p *plant) teller(pack int) string {
	var out strings.Builder
	out.WriteString("type any interface { }\nfunc tell(e any) { switch t := e.(type) { case nil: print(\"nil\"); case int: print(t); case string: print(t); case bool: print(t)")
	for _, t := range p.types {
		if t.pack >= pack {
			fmt.Fprintf(&out, "; case %s: print(%q)", p.named(t, pack), p.named(t, pack))
			if t.kind == "int" || t.kind == "string" {
				out.WriteString("; print(t)")
			}
		}
	}
	out.WriteString("; default: print(\"other\") }")
	for _, t := range p.types {
		if t.pack >= pack && t.kind == "interface" {
			fmt.Fprintf(&out, "; if i, ok := e.(%s); ok { print(ok); ", p.named(t, pack))
			for _, name := range t.own {
				fmt.Fprintf(&out, "i.%s%s; ", name, methods[name].args)
			}
			out.WriteString("_ = i }")
		}
	}
	return out.String() + " }"
}

// bodies are functions of a package that use what the types have; and what calls them.
func (p *plant) bodies(pack int) []string {
	out := []string{p.teller(pack)}
	calls := ""
	for i, t := range p.types {
		if t.pack < pack || p.one(3) {
			continue
		}
		g := &writer{plant: p, pack: pack, of: t, id: p.number(t)}
		fmt.Fprintf(&g.out, "func use%d(v %s, w *%s) {\n", i, p.named(t, pack), p.named(t, pack))
		for range 2 + p.IntN(5) {
			g.stmt()
		}
		out = append(out, g.out.String()+"}")
		calls += fmt.Sprintf("use%d(%s, %s); ", i, p.value(t, pack, 2), p.pointer(t, pack, 2))
	}
	if name := p.free(pack); name != "" {
		out = append(out, pick(p.Rand, "var "+name+" = 1", "const ( "+name+" = iota; one )", "func "+name+"(n int) int { return n }", "var "+name+", two = func() (int, int) { return 1, 2 }()"))
	}
	return append(out, []string{"func main() { ", "func init() { ", "func init() { "}[pack]+calls+"}")
}

// files are the program's: main's lines are dealt out to two files.
func (p *plant) files(more [3][]string) []api.File {
	var out []api.File
	put := func(pack int, name string, lines []string) {
		text, head := strings.Join(lines, "\n"), "package "+[]string{"main", "x", "y"}[pack]+"\n"
		if strings.Contains(text, "x.") {
			head += "import \"x\"\n"
		}
		if strings.Contains(text, "q.") {
			head += "import q \"x/y\"\n"
		}
		out = append(out, api.File{Name: name, Text: head + text + "\n"})
	}
	for pack, name := range []string{"m.go", "x/x.go", "x/y/y.go"} {
		lines := slices.Concat(p.lines[pack], more[pack])
		p.Shuffle(len(lines), func(i, j int) { lines[i], lines[j] = lines[j], lines[i] })
		cut := 0
		if pack == 0 {
			cut = p.IntN(len(lines) + 1)
			put(0, "n.go", lines[:cut])
		}
		put(pack, name, lines[cut:])
	}
	return out
}

// someFiles is a program by chance without faults.
func someFiles(r *rand.Rand, types int) []api.File {
	for {
		p := &plant{Rand: r}
		for range types {
			p.growType(pick(r, 0, 0, 1, 2))
		}
		w, f := xref.Open(p.files([3][]string{{"func main() { }"}}))
		if f.Why != api.OK {
			panic(fmt.Sprint(f, p.files([3][]string{})))
		}
		p.table = w
		out := p.files([3][]string{p.bodies(0), p.bodies(1), p.bodies(2)})
		_, f = xref.Open(out)
		if f.Why == api.OK {
			return out
		}
		if f.Why != api.ErrAssert { // an interface type's case that can't be is left to chance
			panic(fmt.Sprintf("%v: %.200q: %.3000q", f, out[f.File].Text[f.At:], out))
		}
	}
}

// writer writes the statements of a function that has a value v of a type and a pointer w to one.
type writer struct {
	*plant
	pack   int
	of     *grown
	id     int
	out    strings.Builder
	labels []string
}

func (g *writer) put(format string, all ...any) { fmt.Fprintf(&g.out, format+"\n", all...) }

// found are the names of the members that are found in the type, by kind.
func (g *writer) found(isField bool) []string {
	table, decls := g.table.Table(), g.table.Scopes().Decls()
	return slices.DeleteFunc(slices.Clone(pool), func(n string) bool {
		d, _, _ := table.Look(g.id, n)
		return d < 0 || isField != (decls[d].Kind == api.DeclField || decls[d].Kind == api.DeclEmbed)
	})
}

func (g *writer) stmt() {
	name, named := pick(g.Rand, pool...), g.named(g.of, g.pack)
	fields, calls := g.found(true), g.found(false)
	k := g.IntN(12)
	switch {
	case k < 3 && len(calls) > 0:
		m := pick(g.Rand, calls...)
		g.put("%s.%s%s", pick(g.Rand, "v", "v", "(v)"), m, methods[m].args)
	case k == 3 && len(calls) > 0 && g.of.kind != "interface":
		m := pick(g.Rand, calls...)
		g.put("{ %s := w.%s; w.%s%s; %s%s }", name, m, m, methods[m].args, name, methods[m].args)
	case k == 4 && len(calls) > 0:
		m := pick(g.Rand, calls...)
		table := g.table.Table()
		if d, _, _ := table.Look(g.id, m); slices.Contains(table.Methods(g.id), d) {
			g.put("_ = %s.%s; %s.%s(v%s", named, m, named, m, strings.Replace(", "+methods[m].args[1:], ", )", ")", 1))
		} else {
			g.put("_ = (*%s).%s", named, m)
		}
	case k < 7 && len(fields) > 0:
		f := pick(g.Rand, fields...)
		g.put("tell(%s.%s); %s := v.%s; _ = %s", pick(g.Rand, "v", "w", "(*w)"), f, "t"+fmt.Sprint(g.out.Len()), f, "t"+fmt.Sprint(g.out.Len()))
	case k == 7 && g.of.kind == "struct":
		g.composite(named)
	case k == 8 && g.of.kind == "interface" && name != g.of.name:
		g.put("switch %s := v.(type) { case nil: print(%s == nil); case %s: tell(%s); default: tell(%s) }", name, name, named, name, name)
	case k == 9:
		g.put("{ %s := v; tell(%s); w := &%s; tell(w) }", name, name, name)
	default:
		g.local(name)
	}
}

// composite writes one of a struct type with keys; a variable may have a key's name.
func (g *writer) composite(named string) {
	names := slices.DeleteFunc(g.of.members(), func(n string) bool { return slices.Contains(g.of.own, n) })
	if len(names) == 0 || names[0] == g.of.name {
		g.put("tell(%s{})", named)
		return
	}
	var keys []string
	for i, name := range names {
		keys = append(keys, name+": "+pick(g.Rand, "v."+name, map[bool]string{true: names[0], false: "v." + name}[i == 0]))
	}
	g.put("{ %s := v.%s; tell(%s{%s}); _ = %s }", names[0], names[0], named, strings.Join(keys, ", "), names[0])
}

// local writes statements with variables, constants, types and labels of their own.
func (g *writer) local(name string) {
	other := pick(g.Rand, pool...)
	switch g.IntN(11) {
	case 0:
		if !slices.Contains(g.labels, name) {
			g.labels = append(g.labels, name)
			g.put("%s: for { if %s := 1; %s > 0 { print(%s); break %s }; continue %s }", name, name, name, name, name, name)
		}
	case 1:
		g.put("func(%s int) { z := func(%s string) int { return len(%s) + 1 }; print(z(\"a\"), %s) }(1)", name, name, name, name)
	case 2:
		g.put("for %s := 0; %s < 2; %s++ { %s := %s + 1; print(%s) }", name, name, name, name, name, name)
	case 3:
		g.put("for %s, z := range []int{2, 3} { print(map[int]int{%s: z}[%s]) }", name, name, name)
	case 4:
		g.put("{ type %s struct { %s int; z string }; print(%s{%s: 1, z: \"\"}.%s) }", name, name, name, name, name)
	case 5:
		g.put("{ const ( %s = iota; z ); print([]int{%s: z}[0]); switch %s { case 1: default: print(%s) } }", name, name, name, name)
	case 6:
		g.put("{ var %s, z = 1, 2; %s, t := z, %s; _, z = t, %s; print(z, t) }", name, name, name, name)
	case 7:
		g.put("{ type %s interface { Z(); %s() }; type Z interface { %s; Z() }; var t Z; tell(t); print(t == nil) }", name, pick(g.Rand, "A", "E"), name)
	case 8:
		if name != other {
			g.put("{ %s := 1; { %s := %s + 1; print(%s, %s) }; if %s, %s := 2, %s; %s > %s { print(%s) } }", name, other, name, name, other, other, "z", name, other, "z", name)
		}
	case 9:
		g.put("{ type %s struct { %s int }; type Z struct { %s; z int }; t := Z{%s: %s{3}}; print(t.%s.%s, t.z) }", name, other, name, name, name, name, other)
	default:
		g.put("{ %s := v; tell(%s) }", name, name)
	}
}
