package rename_test

import (
	"fmt"
	"math/rand/v2"
	"slices"
	"strings"

	"moniker/api"
	"moniker/xref"
)

// someFaces is a program of small types that satisfy one another's interface types or not, embed one another, and are hardly used: a new name breaks little in it.
func someFaces(r *rand.Rand) []api.File {
	names := []string{"k", "l", "m", "n", "o"}
	for {
		var lines, types []string
		own := map[string]string{} // by interface type: calls of its own methods
		for i := range 2 + r.IntN(4) {
			t := fmt.Sprint(pick(r, "I", "S"), i)
			var parts []string
			for range r.IntN(3) {
				if len(types) == 0 {
					break
				}
				if e := pick(r, types...); t[0] == 'S' || e[0] == 'I' {
					parts = append(parts, map[bool]string{true: "*"}[t[0] == 'S' && e[0] == 'S' && r.IntN(2) == 0]+e)
				}
			}
			for _, k := range r.Perm(len(names))[:r.IntN(4)] {
				switch shape := pick(r, "()", "()", "() int"); {
				case t[0] == 'I':
					parts = append(parts, names[k]+shape)
					own[t] += "x." + names[k] + "(); "
				case r.IntN(3) == 0:
					parts = append(parts, names[k]+" int")
				default:
					lines = append(lines, fmt.Sprintf("func (r %s%s) %s%s { print(%q); %s }", pick(r, "", "*"), t, names[k], shape, t+"."+names[k], map[bool]string{true: "return 1"}[shape == "() int"]))
				}
			}
			slices.Sort(parts)
			types = append(types, t)
			lines = append(lines, "type "+t+map[bool]string{true: " interface { ", false: " struct { "}[t[0] == 'I']+strings.Join(slices.Compact(parts), "; ")+" }")
		}
		for n := range r.IntN(4) {
			lines = append(lines, aside(r, n, types, names))
		}
		lines = append(lines, called(types, own))
		r.Shuffle(len(lines), func(i, j int) { lines[i], lines[j] = lines[j], lines[i] })
		out := []api.File{{Name: "a", Text: "package main\n" + strings.Join(lines, "\n") + "\n"}}
		if _, f := xref.Open(out); f.Why == api.OK {
			return out
		}
	}
}

// aside is a type without a name, or a function with types of its own or with uses of others: it may have a fault.
func aside(r *rand.Rand, n int, types, names []string) string {
	e, f := pick(r, types...), pick(r, types...)
	a, b := pick(r, names...), pick(r, names...)
	star := func(t string) string { return map[bool]string{true: "*"}[t[0] == 'S' && r.IntN(2) == 0] + t }
	switch r.IntN(7) {
	case 0:
		return fmt.Sprintf("type _ struct { %s; %s int }", star(e), a)
	case 1:
		return fmt.Sprintf("type _ struct { %s; %s; %s, %s int }", star(e), star(f), a, b)
	case 2:
		return fmt.Sprintf("type _ interface { %s; %s; %s() }", e, f, a)
	case 3:
		return fmt.Sprintf("func f%d() { type %s struct { %s; %s int }; type T struct { %s; %s; %s int }; _ = T{}.%s }", n, e, star(f), a, e, star(f), b, a)
	case 4:
		return fmt.Sprintf("func f%d() { type Y interface { %s; %s() }; type X interface { Y; %s() }; var x X; x.%s(); x.%s() }", n, e, a, b, a, b)
	case 5:
		return fmt.Sprintf("func f%d(x %s) { x.%s(); _ = x.%s }", n, star(e), a, b)
	}
	return fmt.Sprintf("func f%d(x %s) { _ = %s{%s: 1, %s: x}.%s }", n, star(e), f, a, e, b)
}

// called is a func main that puts each struct type into an interface value, asks which of the interface types it satisfies, and calls what it has of these.
func called(types []string, own map[string]string) string {
	var out strings.Builder
	out.WriteString("type any interface { }\nfunc main() { for _, e := range []any{0")
	for _, t := range types {
		if t[0] == 'S' {
			fmt.Fprintf(&out, ", %s{}, &%s{}", t, t)
		}
	}
	out.WriteString("} { ")
	for _, t := range types {
		if t[0] == 'I' {
			fmt.Fprintf(&out, "if x, ok := e.(%s); ok { print(%q); %s_ = x }; ", t, t, own[t])
		}
	}
	return out.String() + "_ = e } }"
}

// someWhole is a program whose variables, constants and functions are all of ints: so a name that catches another mostly leaves it without faults.
func someWhole(r *rand.Rand) []api.File {
	g := &ints{Rand: r}
	g.open()
	for range 2 + r.IntN(3) {
		name := g.fresh()
		switch g.IntN(4) {
		case 0:
			g.put("const %s = 1", name)
		case 1:
			g.put("var %s = %d", name, g.IntN(9))
		case 2:
			g.put("var %s = func() int { return %s }()", name, g.some())
		case 3:
			g.put("func %s(A, B int) int { return A - B }", name)
			g.calls = append(g.calls, name)
			continue
		}
		g.note(name)
	}
	g.put("func main() {")
	g.open()
	g.stmts(7+g.IntN(6), 3)
	g.shut()
	return []api.File{{Name: "a", Text: "package main\n" + g.out.String() + "}\n"}}
}

// ints writes statements with ints.
type ints struct {
	*rand.Rand
	out    strings.Builder
	scopes [][]string // names, as far as they are taken in each
	known  []string
	sizes  []int // how many were known when each scope began
	calls  []string
	labels int
}

func (g *ints) put(format string, all ...any) { fmt.Fprintf(&g.out, format+"\n", all...) }

func (g *ints) open() { g.scopes, g.sizes = append(g.scopes, nil), append(g.sizes, len(g.known)) }

func (g *ints) shut() {
	g.known = g.known[:g.sizes[len(g.sizes)-1]]
	g.scopes, g.sizes = g.scopes[:len(g.scopes)-1], g.sizes[:len(g.sizes)-1]
}

// fresh is a name that the scope does not have.
func (g *ints) fresh() string {
	last := len(g.scopes) - 1
	for {
		name := pick(g.Rand, append(slices.Clone(pool), "G", "H", "K", "M", fmt.Sprint("n", len(g.scopes[last])))...)
		if !slices.Contains(g.scopes[last], name) {
			g.scopes[last] = append(g.scopes[last], name)
			return name
		}
	}
}

func (g *ints) note(name string) { g.known = append(g.known, name) }

// some is an expression of what is known.
func (g *ints) some() string {
	a, b := fmt.Sprint(g.IntN(5)), fmt.Sprint(g.IntN(5))
	if len(g.known) > 0 && g.IntN(6) > 0 {
		a, b = pick(g.Rand, g.known...), pick(g.Rand, g.known...)
	}
	switch g.IntN(4) {
	case 0:
		return a + pick(g.Rand, " + ", " - ", " * ") + b
	case 1:
		if len(g.calls) == 0 {
			break
		}
		call := pick(g.Rand, g.calls...)
		if !slices.ContainsFunc(g.scopes[1:], func(l []string) bool { return slices.Contains(l, call) }) {
			return call + "(" + a + ", " + b + ")"
		}
	}
	return a
}

func (g *ints) stmts(n, depth int) {
	for range n {
		g.stmt(depth)
	}
	g.put("print(%s, %s)", g.some(), g.some())
}

func (g *ints) within(depth int) {
	g.open()
	g.stmts(1+g.IntN(3), depth-1)
	g.shut()
}

func (g *ints) stmt(depth int) {
	value := g.some()
	k := g.IntN(14)
	if k < 5 || depth == 0 {
		name := g.fresh()
		g.put(pick(g.Rand, "%s := %s", "var %s = %s", "var %s int = %s"), name, value)
		g.put("_ = %s", name)
		g.note(name)
		return
	}
	switch k {
	case 5:
		a, b := g.fresh(), g.fresh()
		g.put("%s, %s := %s, %s; %s, _ = %s, %s; print(%s)", a, b, value, g.some(), a, b, a, b)
		g.note(a)
		g.note(b)
	case 6:
		a, b := g.fresh(), g.fresh()
		g.put("%s := %s; %s, %s := 1, %s; print(%s, %s)", a, value, a, b, a, a, b)
		g.note(a)
		g.note(b)
	case 7:
		g.put("{")
		g.within(depth)
		g.put("}")
	case 8:
		g.open()
		name := g.fresh()
		g.put("if %s := %s; %s > 1 {", name, value, name)
		g.note(name)
		g.within(depth)
		g.put("} else {")
		g.within(depth)
		g.put("}")
		g.shut()
	case 9:
		g.open()
		name := g.fresh()
		g.labels++
		label := pick(g.Rand, "L", "A", "B") + strings.Repeat("_", g.labels)
		g.put("%s: for %s := 0; %s < 3; %s++ {", label, name, name, name)
		g.note(name)
		g.within(depth)
		g.put("if %s > 1 { break %s }; for range 2 { continue %s } }", name, label, label)
		g.shut()
	case 10:
		g.open()
		a, b := g.fresh(), g.fresh()
		g.put("for %s, %s := range []int{%s, 2} { _ = %s; _ = %s", a, b, value, a, b)
		g.note(a)
		g.note(b)
		g.within(depth)
		g.put("}")
		g.shut()
	case 11:
		g.open()
		a, b := g.fresh(), g.fresh()
		g.put("func(%s, %s int) {", a, b)
		g.note(a)
		g.note(b)
		g.stmts(2, depth-1)
		g.put("}(%s, 2)", value)
		g.shut()
	case 12:
		a, b := g.fresh(), g.fresh()
		g.put("const ( %s = iota + 1; %s ); switch %s { case %s: print(1); case %s: print(2) }", a, b, b, a, b)
		g.note(a)
		g.note(b)
	case 13:
		g.put("func() int { return %s }()", value)
	}
}
