package plan_test

import (
	"fmt"
	"math/rand/v2"
	"slices"
	"strings"

	"moniker/api"
	"moniker/types"
	"moniker/xref"
)

// pool are the few names that programs by chance have: so members, types, variables and labels often share one.
var pool = []string{"A", "B", "C", "D", "E", "F", "G", "H"}

// sigs are what a method's name says of its parameters and results, so that methods of one name always agree.
var sigs = map[string]string{"A": "()", "B": "(%sint) string", "C": "(%sint, %sstring)", "D": "(%s[]int) (int, bool)", "E": "()", "F": "() int", "G": "(%sbool)", "H": "(%sstring) string"}

// sig is a method's Sig or Shape; its body ends it.
func sig(name string, isShape bool) (string, string) {
	n, s := 0, sigs[name]
	for strings.Contains(s, "%s") {
		put := ""
		if !isShape {
			put = fmt.Sprintf("%c ", 'a'+n)
		}
		s = strings.Replace(s, "%s", put, 1)
		n++
	}
	return s, map[string]string{"() int": "return 1", "(%sint) string": "return \"\"", "(%sstring) string": "return a", "(%s[]int) (int, bool)": "return len(a), true"}[sigs[name]]
}

// grown is a declared type of a program by chance.
type grown struct {
	pack    int
	name    string
	kind    string // struct, interface, int
	parts   []string
	methods []string
	own     []string // names of its members
}

// plant is a program by chance: packages main, x and x/y; x imports x/y, main both.
type plant struct {
	r     *rand.Rand
	types []*grown
	names [3][]string // package-level, as far as they are taken
	words [3]string   // what the package is named by in those that import it
	lines [3][]string // declarations
	uses  [3][3]bool  // which package's functions name which other
}

func (p *plant) one(n int) bool { return p.r.IntN(n) == 0 }

// free is a package-level name that is not taken; "": all are.
func (p *plant) free(pack int) string {
	var out []string
	for _, n := range pool {
		if !slices.Contains(p.names[pack], n) {
			out = append(out, n)
		}
	}
	if len(out) == 0 {
		return ""
	}
	name := pick(p.r, out...)
	p.names[pack] = append(p.names[pack], name)
	return name
}

// named is a type as it is written in a package.
func (p *plant) named(t *grown, from int) string {
	if t.pack == from {
		return t.name
	}
	return p.words[t.pack] + "." + t.name
}

// sees tells whether a package may name another's things.
func sees(from, to int) bool { return from <= to }

// someType is a type of a field.
func (p *plant) someType(from int) string {
	if len(p.types) > 0 && p.one(2) {
		if t := pick(p.r, p.types...); sees(from, t.pack) {
			return pick(p.r, "", "*", "[]", "map[string]") + p.named(t, from)
		}
	}
	return pick(p.r, "int", "string", "bool", "[]int", "func()", "map[int]bool")
}

func (t *grown) take(name string) bool {
	if slices.Contains(t.own, name) {
		return false
	}
	t.own = append(t.own, name)
	return true
}

// growType makes a type of a package; what it embeds was made ahead of it, so that none needs itself.
func (p *plant) growType(pack int) {
	t := &grown{pack: pack, name: p.free(pack), kind: pick(p.r, "struct", "struct", "struct", "interface", "interface", "int")}
	if t.name == "" {
		return
	}
	for range p.r.IntN(4) {
		if name := pick(p.r, pool...); t.kind == "struct" && t.take(name) {
			t.parts = append(t.parts, name+" "+p.someType(pack))
		}
	}
	fit := slices.DeleteFunc(slices.Clone(p.types), func(e *grown) bool {
		return !sees(pack, e.pack) || t.kind == "interface" && e.kind != "interface"
	})
	for range p.r.IntN(3) {
		if len(fit) == 0 || t.kind == "int" {
			break
		}
		e := pick(p.r, fit...)
		if t.kind == "struct" && !t.take(e.name) {
			continue
		}
		star := ""
		if t.kind == "struct" && e.kind != "interface" {
			star = pick(p.r, "", "*")
		}
		t.parts = append(t.parts, star+p.named(e, pack))
	}
	for range p.r.IntN(4) {
		name := pick(p.r, pool...)
		if t.kind == "interface" {
			name = pick(p.r, pool[:4]...) // so that several have one method
		}
		if t.take(name) {
			t.methods = append(t.methods, name)
		}
	}
	p.types = append(p.types, t)
	p.lines[pack] = append(p.lines[pack], p.write(t)...)
}

// write are the lines of a type and its methods.
func (p *plant) write(t *grown) []string {
	parts := slices.Clone(t.parts)
	var out []string
	for _, m := range t.methods {
		if t.kind == "interface" {
			s, _ := sig(m, true)
			parts = append(parts, m+s)
			continue
		}
		s, body := sig(m, false)
		out = append(out, "func ("+pick(p.r, "r ", "", "_ ")+pick(p.r, "", "*")+t.name+") "+m+s+" { "+body+" }")
	}
	if t.kind == "int" {
		return append(out, "type "+t.name+" "+pick(p.r, "int", "string", "[]int", "func(int)"))
	}
	p.r.Shuffle(len(parts), func(i, j int) { parts[i], parts[j] = parts[j], parts[i] })
	if t.kind == "struct" && p.one(4) {
		parts = append(parts, "_ int")
	}
	return append(out, "type "+t.name+" "+t.kind+" { "+strings.Join(parts, "; ")+" }")
}

// imports are the import lines of a package for those that are named in it.
func (p *plant) imports(from int, text string) string {
	out := ""
	for to, path := range []string{"", "x", "x/y"} {
		if to > from && (strings.Contains(text, p.words[to]+".")) {
			out += "import "
			if p.words[to] != []string{"main", "x", "y"}[to] {
				out += p.words[to] + " "
			}
			out += fmt.Sprintf("%q\n", path)
		}
	}
	return out
}

// files are the program's: main's lines are dealt out to two files.
func (p *plant) files(more [3][]string) []api.File {
	var out []api.File
	for pack, name := range []string{"m.go", "x/x.go", "x/y/y.go"} {
		lines := append(slices.Clone(p.lines[pack]), more[pack]...)
		p.r.Shuffle(len(lines), func(i, j int) { lines[i], lines[j] = lines[j], lines[i] })
		cut := 0
		if pack == 0 {
			lines = append(lines, "func main() { }")
			cut = p.r.IntN(len(lines) + 1)
			first := strings.Join(lines[:cut], "\n")
			out = append(out, api.File{Name: "n.go", Text: "package main\n" + p.imports(0, first) + first + "\n"})
		}
		rest := strings.Join(lines[cut:], "\n")
		out = append(out, api.File{Name: name, Text: "package " + []string{"main", "x", "y"}[pack] + "\n" + p.imports(pack, rest) + rest + "\n"})
	}
	return out
}

// someFiles is a program by chance without faults; it may be one of Go too.
func someFiles(r *rand.Rand) []api.File {
	for {
		p := &plant{r: r, words: [3]string{"", pick(r, "x", "p"), pick(r, "y", "q")}}
		for range 3 + r.IntN(12) {
			p.growType(r.IntN(3))
		}
		w, f := xref.Open(p.files([3][]string{}))
		if f.Why != api.OK {
			panic(fmt.Sprint(f, p.files([3][]string{})))
		}
		out := p.files(p.bodies(w))
		if _, f := xref.Open(out); f.Why != api.OK {
			panic(fmt.Sprintf("%v: %.1000q", f, out[f.File].Text[max(0, f.At-200):]))
		}
		return out
	}
}

// writer writes the statements of a function of a package.
type writer struct {
	*plant
	pack   int
	table  *types.Table
	out    strings.Builder
	labels []string
}

// bodies are functions that use what the types have.
func (p *plant) bodies(w *xref.Whole) [3][]string {
	var out [3][]string
	named := map[string]int{}
	for d, decl := range w.Scopes().Decls() {
		if decl.Kind == api.DeclType {
			named[fmt.Sprint(w.Program().Packs()[decl.Pack].Name, decl.Name)] = w.Table().Named(d)
		}
	}
	for pack := range 3 {
		if name := p.free(pack); name != "" {
			out[pack] = append(out[pack], pick(p.r, "var "+name+" int", "const "+name+" = 1", "func "+name+"() { }", "var "+name+", _ = 1, 2"))
		}
		for i, t := range p.types {
			if sees(pack, t.pack) && !p.one(3) {
				g := &writer{plant: p, pack: pack, table: w.Table()}
				id := named[fmt.Sprint([]string{"main", "x", "y"}[t.pack], t.name)]
				fmt.Fprintf(&g.out, "func use%d(v %s, w *%s) {\n", i, p.named(t, pack), p.named(t, pack))
				for range 2 + p.r.IntN(6) {
					g.stmt(t, id)
				}
				out[pack] = append(out[pack], g.out.String()+"}")
			}
		}
	}
	return out
}

func (g *writer) put(format string, all ...any) { fmt.Fprintf(&g.out, format+"\n", all...) }

// found are the names of the members that are found in a type.
func (g *writer) found(id int) []string {
	return slices.DeleteFunc(slices.Clone(pool), func(n string) bool {
		d, _, _ := g.table.Look(id, n)
		return d < 0
	})
}

// stmt writes a statement that uses a type's members; id is the type's number.
func (g *writer) stmt(t *grown, id int) {
	name, names := pick(g.r, pool...), g.found(id)
	if len(names) == 0 {
		g.local(name, "1")
		return
	}
	has, written := pick(g.r, names...), g.named(t, g.pack)
	switch g.r.IntN(9) {
	case 0, 1:
		g.put("_ = v.%s", has)
	case 2:
		if t.kind != "interface" {
			g.put("_ = w.%s; _ = (*w).%s", has, has)
		}
	case 3:
		g.put("{ %s := v; _ = %s.%s }", name, name, has)
	case 4:
		if d, _, _ := g.table.Look(id, has); slices.Contains(g.table.Methods(id), d) {
			g.put("_ = %s.%s", written, has)
		} else if slices.Contains(g.table.Methods(g.table.Pointer(id)), d) {
			g.put("_ = (*%s).%s", written, has)
		}
	case 5:
		g.composite(t, written)
	case 6:
		if t.kind == "interface" {
			g.match(t, name, has, written)
		}
	default:
		g.local(name, "v."+has)
	}
}

// composite writes one of a struct type with keys; a variable may have a key's name.
func (g *writer) composite(t *grown, written string) {
	if t.kind != "struct" {
		return
	}
	var keys, blanks []string
	for _, name := range t.own {
		if !slices.Contains(t.methods, name) && g.one(2) {
			keys, blanks = append(keys, name+": v."+name), append(blanks, name)
		}
	}
	lit := "_ = " + written + "{" + strings.Join(keys, ", ") + "}"
	if len(blanks) > 0 && blanks[0] != t.name {
		lit = "{ " + blanks[0] + " := v." + blanks[0] + "; " + pick(g.r, lit, strings.Replace(lit, "v."+blanks[0], blanks[0], 1)) + "; _ = " + blanks[0] + " }"
	}
	g.put("%s", lit)
}

func (g *writer) match(t *grown, name, has, written string) {
	if name == t.name {
		return
	}
	g.put("switch %s := v.(type) { case nil: _ = %s; case %s: _ = %s.%s; default: _ = %s }", name, name, written, name, has, name)
}

// local writes statements with variables, constants, types and labels of their own.
func (g *writer) local(name, value string) {
	switch g.r.IntN(10) {
	case 0:
		if !slices.Contains(g.labels, name) {
			g.labels = append(g.labels, name)
			g.put("%s: for { if %s := 1; %s > 0 { break %s }; continue %s }", name, name, name, name, name)
		}
	case 1:
		g.put("func(%s int) { %s := func(%s string) int { return len(%s) }; _ = %s }(1)", name, "z", name, name, "z")
	case 2:
		g.put("for %s := 0; %s < 2; %s++ { %s := %s; print(%s) }", name, name, name, name, name, name)
	case 3:
		g.put("for %s, z := range []int{2} { _ = map[int]int{%s: z} }", name, name)
	case 4:
		g.put("{ type %s struct { %s int; z string }; _ = %s{%s: 1, z: \"\"}.%s }", name, name, name, name, name)
	case 5:
		g.put("{ const ( %s = iota; z ); _ = []int{%s: z}; switch %s { case 1: default: print(%s) } }", name, name, name, name)
	case 6:
		g.put("{ var %s, z = 1, 2; %s, t := z, %s; _, z = t, %s; _ = z }", name, name, name, name)
	case 7:
		g.put("{ type %s interface { Z(); %s() }; type Z interface { %s; Z() }; var t Z; t.Z(); t.%s(); _ = Z.Z }", name, pick(g.r, "A", "E"), name, "Z")
	default:
		g.put("{ %s := %s; _ = %s }", name, value, name)
	}
}
