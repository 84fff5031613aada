package types_test

import (
	"fmt"
	"math/rand/v2"
	"slices"
	"strings"

	"moniker/api"
)

func chance(seed uint64) *rand.Rand { return rand.New(rand.NewPCG(seed, 10)) }

func pick[T any](r *rand.Rand, l ...T) T { return l[r.IntN(len(l))] }

// pool are the members' names; a method of each has mostly one and the same type.
var pool = []string{"a", "b", "k", "m", "n", "A", "M"}

// kinds of types that are written, by what their right sides are.
const (
	asStruct = iota
	asInterface
	asInt
	asText
	asSlice
	asMap
	asFunc
	asPointer
)

// idea is a type that is to be written.
type idea struct {
	name    string
	kind    int
	members []string
}

// grower writes a program of types by chance, mostly one that may be.
type grower struct {
	r     *rand.Rand
	wild  int  // one of so many choices is any
	dense bool // much is embedded
	out   strings.Builder
	ideas []*idea
	other []string // what stands in the other package, if that is imported
}

func (g *grower) one(n int) bool { return g.r.IntN(n) == 0 }

func (g *grower) put(parts ...string) {
	for _, s := range parts {
		g.out.WriteString(s)
	}
}

// some is the name of one of the types ahead of number i of which something holds; def, if there is none. Now and then it is any name.
func (g *grower) some(i int, def string, holds func(k int) bool) string {
	if g.one(g.wild) {
		return pick(g.r, pick(g.r, g.ideas...).name, pick(g.r, g.ideas...).name, "int", "v", "f", "nil", "c", "len", "T0")
	}
	var names []string
	for _, x := range g.ideas[:i] {
		if holds(x.kind) {
			names = append(names, x.name)
		}
	}
	if len(names) == 0 {
		return def
	}
	return pick(g.r, names...)
}

func any1(int) bool { return true }

// typeText is a type of which number i may have a field; whole: one that may be the right side of number i.
func (g *grower) typeText(i int, whole bool, depth int) string {
	all := len(g.ideas)
	if whole {
		all = i
	}
	if depth > 3 {
		return pick(g.r, "int", "string", "bool", g.some(i, "int", any1))
	}
	inner := func() string { return g.typeText(all, whole, depth+1) }
	switch g.r.IntN(10) {
	case 0:
		return "*" + inner()
	case 1:
		return "[]" + inner()
	case 2:
		return "map[" + g.key() + "]" + inner()
	case 3:
		return "func(" + pick(g.r, "", inner(), inner()+", "+inner()) + ") " + pick(g.r, "", inner(), "("+inner()+", "+inner()+")")
	case 4:
		return "(" + g.typeText(i, whole, depth+1) + ")"
	case 5:
		if len(g.other) > 0 {
			return pick(g.r, g.other...)
		}
	case 6, 7:
		return g.some(i, "int", any1)
	}
	return pick(g.r, "int", "string", "bool")
}

// key is a type that may mostly be a map's key.
func (g *grower) key() string {
	if g.one(g.wild) {
		return g.typeText(len(g.ideas), false, 2)
	}
	return pick(g.r, "int", "bool", "(string)", g.some(len(g.ideas), "int", func(k int) bool { return k == asInt || k == asText }))
}

// member is a name that an idea mostly does not have yet.
func (g *grower) member(x *idea) string {
	name := pick(g.r, pool...)
	for tries := 0; tries < 20 && slices.Contains(x.members, name); tries++ {
		name = pick(g.r, pool...)
	}
	if slices.Contains(x.members, name) && !g.one(g.wild) {
		return "_"
	}
	x.members = append(x.members, name)
	return name
}

// shape is the parameters and results that methods of a name mostly have; with names for the parameters in a Sig.
func (g *grower) shape(name string, named bool) string {
	if g.one(g.wild) || g.one(8) {
		return pick(g.r, "()", "() string", "() (int, int)")
	}
	a, b := "", ""
	if named {
		a, b = "a ", "b, c "
	}
	switch name {
	case "m":
		return "()"
	case "n":
		return "(" + a + "int) string"
	case "k":
		if named {
			return "(" + b + "int) (bool, int)"
		}
		return "(int, int) (bool, int)"
	}
	return "() int"
}

// right writes the right side of number i.
func (g *grower) right(i int) {
	x := g.ideas[i]
	if g.one(3 * g.wild) {
		g.put(pick(g.r, g.ideas...).name)
		return
	}
	switch x.kind {
	case asStruct:
		g.structure(i)
	case asInterface:
		g.put("interface { ")
		for range g.r.IntN(4) {
			if g.one(3) {
				if name := g.some(i, "", func(k int) bool { return k == asInterface }); name != "" {
					g.put(name, "; ")
				}
				continue
			}
			name := g.member(x)
			g.put(name, g.shape(name, false), "; ")
		}
		if g.one(6) && slices.Contains(g.other, "x.J") {
			g.put("x.J; ")
		}
		g.put("}")
	case asInt, asText:
		g.put(pick(g.r, []string{"int", "string"}[x.kind-asInt], g.some(i, []string{"int", "string"}[x.kind-asInt], func(k int) bool { return k == x.kind })))
	case asSlice:
		g.put("[]", g.typeText(i, true, 1))
	case asMap:
		g.put("map[", g.some(i, "int", func(k int) bool { return k == asInt || k == asText }), "]", g.typeText(i, true, 1))
	case asFunc:
		g.put("func(", g.typeText(i, true, 2), ")")
	case asPointer:
		g.put("*", g.typeText(i, true, 1))
	}
}

func (g *grower) structure(i int) {
	x := g.ideas[i]
	g.put("struct { ")
	count, sort := g.r.IntN(5), 5
	if g.dense {
		count, sort = 1+g.r.IntN(4), 12
	}
	for range count {
		switch g.r.IntN(sort) {
		case 0, 1:
			g.put(g.member(x), pick(g.r, "", ", "+g.member(x)), " ", g.typeText(i, false, 0), "; ")
		case 2:
			g.embed(x, g.some(i, "", func(k int) bool { return k != asPointer }))
		case 3:
			name := "*" + g.some(len(g.ideas), "", func(k int) bool { return k != asPointer && k != asInterface })
			if len(g.other) > 0 && g.one(3) {
				name = pick(g.r, "x.S", "*x.S", "x.J", "x.N")
			}
			g.embed(x, name)
		default:
			g.embed(x, pick(g.r, "", "*")+g.some(i, "", func(k int) bool { return k != asPointer && k != asInterface }))
		}
	}
	g.put("}")
}

// embed writes an embedded type, if its name may be a member's.
func (g *grower) embed(x *idea, text string) {
	name := strings.TrimPrefix(strings.TrimPrefix(text, "*"), "x.")
	if name == "" || slices.Contains(x.members, name) && !g.one(g.wild) {
		return
	}
	x.members = append(x.members, name)
	g.put(text, "; ")
}

// method writes a Func with a receiver.
func (g *grower) method(x *idea) {
	name := g.member(x)
	recv := x.name
	if g.one(2) {
		recv = "*" + recv
	}
	if g.one(g.wild) {
		recv = pick(g.r, "int", "*int", "v", "x.S", "*x.J", "*"+pick(g.r, g.ideas...).name)
		if strings.Contains(recv, "x.") && len(g.other) == 0 {
			recv = "int"
		}
	}
	g.put("func (", pick(g.r, "", "r ", "_ "), recv, ") ", name, g.shape(name, true), " {")
	g.body()
	g.put("}\n")
}

// body writes statements with types in them.
func (g *grower) body() {
	all := len(g.ideas)
	text := func() string { return g.typeText(all, false, 1) }
	for range g.r.IntN(3) {
		switch g.r.IntN(7) {
		case 0:
			g.put(" { var w ", text(), "; w = w }; ")
		case 1:
			g.put(" print(v.(", text(), ")); ")
		case 2:
			g.put(" print([]", text(), "{}, map[", g.key(), "]", text(), "{1: 2}, ", g.some(all, "T0", func(k int) bool { return k == asStruct }), "{a: 1}); ")
		case 3:
			g.put(" switch v.(type) { case ", text(), ", ", pick(g.r, "nil", text()), ": default: }; ")
		case 4:
			g.put(" func(p ", text(), ") ", pick(g.r, "", text()), " { }(v); ")
		case 5:
			g.local()
		case 6:
			g.put(" print((*v), (T0)(v), *T0(v), []int(v)); ")
		}
	}
}

// local writes a type of a Block, that may hide one of the package.
func (g *grower) local() {
	name := pick(g.r, "L", "T0", "T1", "_")
	switch g.r.IntN(4) {
	case 0:
		g.put(" { type ", name, " struct { a ", g.typeText(len(g.ideas), false, 1), "; p *", pick(g.r, "T0", "int"), " } }; ")
	case 1:
		g.put(" { type ", name, " []int; var w ", pick(g.r, "T0", "T1"), "; w = w }; ")
	case 2:
		g.put(" { type ", name, " interface { ", pick(g.r, pool...), "(); ", pick(g.r, pool...), "() } }; ")
	default:
		g.put(" { type ", name, " struct { ", pick(g.r, "", "*"), g.some(len(g.ideas), "T0", func(k int) bool { return k == asStruct }), "; b int } }; ")
	}
}

// draft is a program of types in parts, which may stand in any order: each a line or some.
type draft struct {
	head  string
	parts []string
	other []api.File
}

// someFiles is a program of types by chance: one package, or two of which the first imports the second, in several files.
func someFiles(r *rand.Rand, wild int) []api.File { return someDraft(r, wild).files(r) }

func someDraft(r *rand.Rand, wild int) draft {
	g := &grower{r: r, wild: wild, dense: r.IntN(2) == 0}
	kinds := []int{asStruct, asStruct, asStruct, asStruct, asInterface, asInterface, asInt, asText, asSlice, asMap, asFunc, asPointer}
	if g.dense {
		kinds = []int{asStruct, asStruct, asStruct, asStruct, asInterface, asInt}
	}
	for i := range 2 + r.IntN(9) {
		g.ideas = append(g.ideas, &idea{name: fmt.Sprint("T", i), kind: pick(r, kinds...)})
	}
	d := draft{head: "package main\n"}
	if r.IntN(3) == 0 {
		g.other = []string{"x.S", "x.N", "x.J", "x.P"}
		d.head += "import \"x\"\n"
		d.other = []api.File{{Name: "x/a", Text: "package x\ntype S struct { a int; N; *K }; type N string; func (n N) n(a int) string { }; type K struct { J; b bool }; func (k *K) k(b, c int) (bool, int) { }; type J interface { m(); I }; type I interface { m(); A() int }; type P *S"}}
	}
	cut := func() {
		d.parts = append(d.parts, g.out.String())
		g.out.Reset()
	}
	for i, x := range g.ideas {
		g.put("type ", x.name, " ")
		g.right(i)
		g.put("\n")
		cut()
	}
	for _, x := range g.ideas {
		if (x.kind == asInterface || x.kind == asPointer) && !g.one(g.wild) {
			continue
		}
		for range r.IntN(3) {
			g.method(x)
			cut()
		}
	}
	g.put("var v, w ", g.typeText(len(g.ideas), false, 0), "\nconst c ", pick(r, "", "int "), "= 1\nfunc f() {")
	g.body()
	g.put("}\n")
	cut()
	return d
}

// files are a draft's parts in some order, in two files, which stand in some order.
func (d draft) files(r *rand.Rand) []api.File {
	parts, out := slices.Clone(d.parts), slices.Clone(d.other)
	r.Shuffle(len(parts), func(i, j int) { parts[i], parts[j] = parts[j], parts[i] })
	cut := r.IntN(len(parts) + 1)
	out = append(out, api.File{Name: "f", Text: d.head + strings.Join(parts[:cut], "")}, api.File{Name: "g", Text: d.head + strings.Join(parts[cut:], "")})
	r.Shuffle(len(out), func(i, j int) { out[i], out[j] = out[j], out[i] })
	return out
}
