package ties_test

import (
	"fmt"
	"math/rand/v2"
	"slices"
	"strings"

	"moniker/api"
	"moniker/xref"
)

// pool are the names of types and members alike: so embedded fields are met beside fields and methods.
var pool = []string{"A", "B", "C", "D", "E", "F"}

// grown is a declared type of a program by chance.
type grown struct {
	pack       int
	name, kind string
	own        []string
}

// plant is a program by chance: packages main, x and x/y; x imports x/y, main both.
type plant struct {
	*rand.Rand
	kinds   []string // of types, the likelier the oftener
	members []string // the names of fields and methods
	types   []*grown
	lines   [3][]string
}

func (p *plant) one(n int) bool { return p.IntN(n) == 0 }

// named is a type as it is written in a package.
func (p *plant) named(t *grown, from int) string {
	if t.pack == from {
		return t.name
	}
	return []string{"", "x", "q"}[t.pack] + "." + t.name
}

func (t *grown) take(name string) bool {
	if slices.Contains(t.own, name) {
		return false
	}
	t.own = append(t.own, name)
	return true
}

// shape is what methods of a name mostly have as parameters and results.
func (p *plant) shape(name string) string {
	if p.one(6) {
		return pick(p.Rand, "() int", "() string")
	}
	return map[string]string{"A": "()", "B": "() int"}[name] + map[bool]string{true: "()"}[name > "B"]
}

// right is the right side of a type, and the lines of its methods.
func (p *plant) right(t *grown, inBlock bool) (string, []string) {
	var parts, methods []string
	for range p.IntN(3) {
		if name := pick(p.Rand, p.members...); t.kind == "struct" && t.take(name) {
			parts = append(parts, name+" int")
		}
	}
	for range p.IntN(4) {
		if len(p.types) == 0 || t.kind == "int" {
			break
		}
		e := pick(p.Rand, p.types...)
		if e.pack < t.pack || t.kind == "interface" && e.kind != "interface" || t.kind == "struct" && !t.take(e.name) {
			continue
		}
		star := ""
		if t.kind == "struct" && e.kind != "interface" {
			star = pick(p.Rand, "", "*", "*")
		}
		parts = append(parts, star+p.named(e, t.pack))
	}
	for range p.IntN(4) {
		name := pick(p.Rand, p.members...)
		if inBlock && t.kind != "interface" || !t.take(name) {
			continue
		}
		shape := p.shape(name)
		if t.kind == "interface" {
			parts = append(parts, name+shape)
			continue
		}
		body := map[string]string{"() int": "return 1", "() string": "return \"\""}[shape]
		methods = append(methods, "func (r "+pick(p.Rand, "", "*")+t.name+") "+name+shape+" { "+body+" }")
	}
	if t.kind == "int" {
		return pick(p.Rand, "int", "[]string", "func()"), methods
	}
	p.Shuffle(len(parts), func(i, j int) { parts[i], parts[j] = parts[j], parts[i] })
	return t.kind + " { " + strings.Join(parts, "; ") + " }", methods
}

// grow makes a type; now and then one without a name, or in a Block.
func (p *plant) grow() {
	t := &grown{pack: p.IntN(3), name: pick(p.Rand, pool...), kind: pick(p.Rand, p.kinds...)}
	inBlock, isBlank := p.one(8), p.one(12)
	if !inBlock && !isBlank && slices.ContainsFunc(p.types, func(o *grown) bool { return o.pack == t.pack && o.name == t.name }) {
		return
	}
	right, methods := p.right(t, inBlock || isBlank)
	switch {
	case isBlank:
		p.lines[t.pack] = append(p.lines[t.pack], "type _ "+right)
	case inBlock:
		p.lines[t.pack] = append(p.lines[t.pack], fmt.Sprintf("func f%d() { type %s %s }", len(p.lines[t.pack]), t.name, right))
	default:
		p.types = append(p.types, t)
		p.lines[t.pack] = append(append(p.lines[t.pack], methods...), "type "+t.name+" "+right)
	}
}

// loop lets a struct type embed the * of one that was made behind it.
func (p *plant) loop() {
	a, b := pick(p.Rand, p.types...), pick(p.Rand, p.types...)
	if a.pack == b.pack && a.kind == "struct" && b.kind != "interface" && a.take(b.name) {
		for i, line := range p.lines[a.pack] {
			if rest, ok := strings.CutPrefix(line, "type "+a.name+" struct {"); ok {
				p.lines[a.pack][i] = "type " + a.name + " struct { *" + b.name + ";" + rest
			}
		}
	}
}

// files are the program's: main's lines are dealt out to two files.
func (p *plant) files(more [3][]string) []api.File {
	var out []api.File
	put := func(pack int, name string, lines []string) {
		text := strings.Join(lines, "\n")
		head := "package " + []string{"main", "x", "y"}[pack] + "\n"
		if strings.Contains(text, "x.") {
			head += "import \"x\"\n"
		}
		if strings.Contains(text, "q.") {
			head += "import q \"x/y\"\n"
		}
		out = append(out, api.File{Name: name, Text: head + text + "\n"})
	}
	for pack, name := range []string{"m.go", "x/x.go", "x/y/y.go"} {
		lines := slices.Concat(p.lines[pack], more[pack])
		p.Shuffle(len(lines), func(i, j int) { lines[i], lines[j] = lines[j], lines[i] })
		cut := 0
		if pack == 0 {
			lines = append(lines, "func main() { }")
			cut = p.IntN(len(lines) + 1)
			put(0, "n.go", lines[:cut])
		}
		put(pack, name, lines[cut:])
	}
	return out
}

// uses are functions that name the members that are found in types.
func (p *plant) uses(w *xref.Whole) [3][]string {
	var out [3][]string
	for d, decl := range w.Scopes().Decls() {
		i := slices.IndexFunc(p.types, func(t *grown) bool {
			return t.name == decl.Name && w.Program().Packs()[decl.Pack].Path == []string{"", "x", "x/y"}[t.pack]
		})
		if decl.Kind != api.DeclType || i < 0 || decl.Pack < 0 || w.Table().Named(d) < 0 {
			continue
		}
		t := p.types[i]
		for from := range t.pack + 1 {
			line := fmt.Sprintf("func use%d(v %s) {", d, p.named(t, from))
			for _, name := range pool {
				if found, _, _ := w.Table().Look(w.Table().Named(d), name); found >= 0 && p.one(2) {
					line += " _ = v." + name + ";"
				}
			}
			out[from] = append(out[from], line+" _ = v }")
		}
	}
	return out
}

// someFiles is a program by chance without faults: with some of all kinds of types, or with many interface types that have few methods.
func someFiles(r *rand.Rand) []api.File {
	for {
		p := &plant{Rand: r, kinds: []string{"struct", "struct", "struct", "interface", "interface", "interface", "int"}, members: pool}
		if r.IntN(2) == 0 {
			p.kinds, p.members = []string{"interface", "interface", "interface", "struct", "int"}, pool[2:5]
		}
		for range 3 + r.IntN(14) {
			p.grow()
		}
		for range r.IntN(4) {
			if len(p.types) > 0 {
				p.loop()
			}
		}
		w, f := xref.Open(p.files([3][]string{}))
		if f.Why != api.OK {
			continue
		}
		out := p.files(p.uses(w))
		if _, f := xref.Open(out); f.Why == api.OK {
			return out
		}
	}
}

// someFaces is a program of interface types that have few methods, and of types that satisfy some.
func someFaces(r *rand.Rand) []api.File {
	var lines []string
	count := 3 + r.IntN(7)
	for i := range count {
		var parts []string
		for _, name := range []string{"m", "k", "n", "o"} {
			if r.IntN(3) == 0 {
				parts = append(parts, name+"()")
			}
		}
		for e := range i {
			if r.IntN(count) == 0 {
				parts = append(parts, fmt.Sprint("I", e))
			}
		}
		r.Shuffle(len(parts), func(i, j int) { parts[i], parts[j] = parts[j], parts[i] })
		lines = append(lines, fmt.Sprintf("type I%d interface { %s }", i, strings.Join(parts, "; ")))
	}
	for i := range r.IntN(4) {
		embedded := pick(r, "", "", fmt.Sprint("I", r.IntN(count)))
		lines = append(lines, fmt.Sprintf("type T%d struct { %s }", i, embedded))
		for _, name := range []string{"m", "k", "n", "o"} {
			if r.IntN(3) == 0 {
				lines = append(lines, fmt.Sprintf("func (t %sT%d) %s() { }", pick(r, "", "*"), i, name))
			}
		}
	}
	r.Shuffle(len(lines), func(i, j int) { lines[i], lines[j] = lines[j], lines[i] })
	return mainly(strings.Join(lines, "\n"))
}
