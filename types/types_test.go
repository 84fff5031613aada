package types_test

import (
	"math"
	"slices"
	"strconv"
	"strings"
	"testing"

	"moniker/api"
	"moniker/types"
)

// TestExampleTexts: examples 1, 9 and 10.
func TestExampleTexts(t *testing.T) {
	x := made(t, "type A int; type B A; type C []A; type P struct { }; type R *P; type D []int; type E []int")
	for name, under := range map[string]string{"A": "int", "B": "int", "C": `[]"".A`, "P": `"".P`, "R": `*"".P`} {
		if id := x.named(name); x.Show(id) != `"".`+name || x.Show(x.Under(id)) != under {
			t.Errorf("10.4, 10.7: %s is %s, beneath %s", name, x.Show(id), x.Show(x.Under(id)))
		}
	}
	ints := x.Slice(1)
	a, d, e := x.named("A"), x.named("D"), x.named("E")
	if !x.Assignable(ints, d) || !x.Assignable(d, ints) || x.Assignable(d, e) || x.Assignable(e, d) || x.Assignable(a, 1) || x.Assignable(1, a) || x.Assignable(a, x.named("B")) {
		t.Error("10.12: example 9")
	}
	if got := x.Show(x.Func([]int{1, 1}, []int{2})); got != "func(int, int) string" {
		t.Errorf("10.6: %s", got)
	}
	if got := x.Show(x.Func(nil, []int{1, 2})); got != "func() (int, string)" {
		t.Errorf("10.6: %s", got)
	}
}

// TestShow: types of each form as text, those of Blocks and of other packages too (10.4).
func TestShow(t *testing.T) {
	x := madeOf(t, files("a: package main; import z \"x/y\"; type T int; func f() { type T int; { type T struct { a *T } }; var v T; v = v }; var v z.T", "x/y/a: package y; type T int", "é\"\n/a: package q; type T string"))
	var got []string
	for i, d := range x.decls {
		if d.Kind == api.DeclType {
			got = append(got, strings.ReplaceAll(x.Show(x.Named(i)), "#"+strconv.Itoa(i), "#n"))
		}
	}
	if want := []string{`"".T`, `"".T#n`, `"".T#n`, `"x/y".T`, `"é\"\n".T`}; !slices.Equal(got, want) {
		t.Errorf("10.4: %q, not %q", got, want)
	}
	for id, want := range map[int]string{
		0: "bool", 1: "int", 2: "string", x.Pointer(x.Pointer(0)): "**bool", x.Slice(x.Map(2, x.Slice(1))): "[]map[string][]int", x.Func(nil, nil): "func()", x.Func([]int{0}, nil): "func(bool)", x.Func(nil, []int{1}): "func() int", x.Func([]int{x.Func(nil, []int{1, 2})}, []int{x.Func([]int{2}, []int{0})}): "func(func() (int, string)) func(string) bool", x.Map(x.Slice(0), x.Func(nil, []int{x.Func(nil, nil)})): "map[[]bool]func() func()", x.Slice(x.named("T")): `[]"".T`,
		-1: "", 1 << 40: "", -1 << 62: "",
	} {
		if got := x.Show(id); got != want {
			t.Errorf("10.4: %q, not %q", got, want)
		}
	}
}

// TestOneNumber: identical types have one number, others have others; so it is with their texts (10.4 to 10.6).
func TestOneNumber(t *testing.T) {
	x := made(t, "type T int; type U int; func f() { type T int; print(T(1)) }; var a, b *T; var c func(T, T, []U) T; var d func(T, (T), []U) (T)")
	var ids []int
	for i := range x.decls {
		if id := x.Named(i); id >= 0 {
			ids = append(ids, id)
		}
	}
	for range 2 {
		for _, id := range slices.Clone(ids[:min(len(ids), 12)]) {
			ids = append(ids, x.Pointer(id), x.Slice(id), x.Map(id, 1), x.Map(1, id), x.Func([]int{id}, nil), x.Func(nil, []int{id}), x.Func([]int{id, 1}, nil), x.Func([]int{id}, []int{1}), x.Func([]int{1, id}, nil), x.Func([]int{}, []int{1, id}))
		}
	}
	texts := map[string]int{}
	for _, id := range ids {
		if id < 0 {
			t.Fatal("10.6: no type")
		}
		if other, ok := texts[x.Show(id)]; ok && other != id {
			t.Errorf("10.4: %s has two numbers", x.Show(id))
		}
		texts[x.Show(id)] = id
	}
	distinct := slices.Compact(slices.Sorted(slices.Values(ids)))
	if len(distinct) != len(texts) {
		t.Errorf("10.4: %d types, %d texts", len(distinct), len(texts))
	}
}

// TestWritten: the type of every sort of node, wherever it stands; none of all others (10.5).
func TestWritten(t *testing.T) {
	x := madeOf(t, files("a: package main; import p \"x\"; type T struct { a (T2); U }; type T2 []p.T; type U interface { m(*T) map[string]func(int) (T, bool) }; type _ struct { a int }; func f(v int) { T2(v).x(); print(*v, (v), *T, v.T, p.V, T{a: 1}, (*p.T)(v)); L: for { break L }; switch v.(type) { case nil, []T: } }", "x/a: package x; type T int; var V int"))
	tree := x.p.Tree(0)
	text := x.p.Files()[0].Text
	tokens := x.p.Tokens(0)
	got := map[string]string{}
	for n, node := range tree.Nodes {
		if node.First >= node.End {
			if x.Written(0, n) != -1 {
				t.Errorf("10.5: node %d", n)
			}
			continue
		}
		key := text[tokens[node.First].From:tokens[node.End-1].To]
		if id := x.Written(0, n); id >= 0 {
			got[key] = x.Show(id)
		} else if _, ok := got[key]; !ok {
			got[key] = ""
		}
	}
	for key, want := range map[string]string{
		"(T2)": `"".T2`, "T2": `"".T2`, "[]p.T": `[]"x".T`, "p.T": `"x".T`, "p": "", "T": `"".T`, "struct { a (T2); U }": `"".T`, "U": `"".U`, "*T": `*"".T`, "map[string]func(int) (T, bool)": `map[string]func(int) ("".T, bool)`, "func(int) (T, bool)": `func(int) ("".T, bool)`, "(int) (T, bool)": "", "struct { a int }": "", "_": "", "v": "", "T2(v)": "", "*v": "", "(v)": "", "v.T": "", "p.V": "", "T{a: 1}": "", "(*p.T)": `*"x".T`, "*p.T": `*"x".T`, "L": "", "nil": "", "[]T": `[]"".T`, "m(*T) map[string]func(int) (T, bool)": "", "type T struct { a (T2); U }": "", "T struct { a (T2); U }": "", "int": "int", "f": "", "a": "", "m": "", "1": "",
	} {
		if found, ok := got[key]; !ok || found != want {
			t.Errorf("10.5: %s is %q (%t), not %q", key, found, ok, want)
		}
	}
}

// TestParts: 10.7.
func TestParts(t *testing.T) {
	x := made(t, "type S struct { a, _ int; *T; b []S; _ string; I }; type T int; type I interface { n(); J; m(); _() }; type J interface { o() }; type A []int; type E struct { }; func (s S) c() { }; func (e E) a() { }")
	s := x.named("S")
	check := func(id int, first, second string) {
		t.Helper()
		one, two := x.Parts(id)
		var texts []string
		for _, k := range one {
			texts = append(texts, x.Show(k))
		}
		other := x.names(two)
		if strings.HasPrefix(second, "*") {
			other = "*"
			for _, k := range two {
				other += x.Show(k)
			}
		}
		if got := strings.Join(texts, " "); got != first || other != second {
			t.Errorf("10.7: Parts(%s) = %s, %s", x.Show(id), got, other)
		}
	}
	check(s, `int *"".T []"".S "".I`, "a T b I")
	check(x.named("I"), "", "n m")
	check(x.named("J"), "", "o")
	check(x.named("T"), "", "")
	check(x.named("A"), "", "")
	check(x.named("E"), "", "")
	check(x.Under(x.named("A")), "int", "")
	check(x.Pointer(s), `"".S`, "")
	check(x.Slice(s), `"".S`, "")
	check(x.Map(2, s), `string "".S`, "")
	check(x.Func([]int{1, s}, []int{0}), `int "".S`, "*bool")
	check(x.Func(nil, nil), "", "")
	for _, id := range []int{0, 1, 2, -1, 1 << 40} {
		check(id, "", "")
	}
}

// TestOf: 10.8; and the numbers that are no declaration's, or no type's.
func TestOf(t *testing.T) {
	x := made(t, "type S struct { a, b []int; *T; U }; type T int; type U interface { m(int, S) (bool, T); n() }; func (s *S) o(a, b int, _ T) (S, string) { var l int; type Z struct { z int }; const c = 1; print(l, c) }; func (T) p() { }; var v int; type _ struct { q *T }; func f() { }")
	want := map[string]string{"a": "[]int", "b": "[]int", "T": `*"".T`, "U": `"".U`, "m": `func(int, "".S) (bool, "".T)`, "n": "func()", "o": `func(int, int, "".T) ("".S, string)`, "p": "func()", "z": "int", "q": `*"".T`}
	for i, d := range x.decls {
		text := want[d.Name]
		if !slices.Contains([]api.DeclKind{api.DeclField, api.DeclEmbed, api.DeclMethod, api.DeclShape}, d.Kind) {
			text = ""
		}
		if got := x.Show(x.Of(i)); got != text || (x.Of(i) == -1) != (text == "") {
			t.Errorf("10.8: Of(%v) is %q, not %q", d, got, text)
		}
		isType := d.Kind == api.DeclType || i < 3
		if got := x.Named(i); (got >= 0) != isType || got < -1 || isType && !strings.HasSuffix(x.Show(got), d.Name) && !strings.Contains(x.Show(got), "Z#") {
			t.Errorf("10.5: Named(%v) is %d", d, got)
		}
	}
	for _, n := range []int{-1, len(x.decls), 1 << 40, -1 << 62} {
		if x.Of(n) != -1 || x.Named(n) != -1 || x.Written(0, n) != -1 && n != len(x.decls) || x.Written(n, 0) != -1 {
			t.Errorf("P7: %d", n)
		}
	}
	if x.Written(0, len(x.p.Tree(0).Nodes)) != -1 || x.Written(1, 0) != -1 || x.Written(-1, 0) != -1 {
		t.Error("P7: no node, no file")
	}
}

// wrongIds are numbers that are no type's.
func wrongIds() []int { return []int{-1, -2, -1 << 62, 1 << 40, 1<<63 - 1} }

// TestNoTypes: a number that is no type's (10.6 to 10.12, P7).
func TestNoTypes(t *testing.T) {
	x := made(t, "type S struct { a int }; type I interface { }")
	s, i := x.named("S"), x.named("I")
	for _, id := range wrongIds() {
		if x.Pointer(id) != -1 || x.Slice(id) != -1 || x.Map(id, 1) != -1 || x.Map(1, id) != -1 || x.Func([]int{1, id}, nil) != -1 || x.Func([]int{1}, []int{id}) != -1 || x.Under(id) != -1 || x.Show(id) != "" {
			t.Errorf("10.6: %d", id)
		}
		one, two := x.Parts(id)
		if len(one)+len(two)+len(x.Met(id, "a"))+len(x.Methods(id)) != 0 || x.look(id, "a") != "none" {
			t.Errorf("10.7 to 10.11: %d", id)
		}
		if x.Assignable(id, 0) || x.Assignable(0, id) || x.Satisfies(id, i) || x.Satisfies(i, id) || x.Satisfies(id, id) || x.Assignable(id, s) || x.Assignable(s, id) || x.Assignable(id, id) || x.Assignable(id, i) {
			t.Errorf("10.12: %d", id)
		}
	}
	// A refused call gives no number out.
	next := x.Slice(x.Slice(x.Slice(1)))
	if x.Show(next+1) != "" || x.Func([]int{-1}, nil) != -1 || x.Show(next+1) != "" {
		t.Error("P5: a refused call made a type")
	}
}

// TestNilTable: a nil Table answers as one that has given out no number (10.13).
func TestNilTable(t *testing.T) {
	var x *types.Table
	one, two := x.Parts(0)
	d, way, many := x.Look(0, "a")
	if x.Show(0) != "" || x.Named(0) != -1 || x.Written(0, 0) != -1 || x.Pointer(0) != -1 || x.Slice(0) != -1 || x.Map(0, 0) != -1 || x.Func(nil, nil) != -1 || x.Func([]int{0}, []int{1}) != -1 || x.Under(0) != -1 || len(one)+len(two) != 0 || d != -1 || len(way) != 0 || many || len(x.Met(0, "a")) != 0 || len(x.Methods(0)) != 0 || x.Of(0) != -1 || x.Satisfies(0, 0) || x.Assignable(0, 0) || x.Scopes() != nil {
		t.Error("10.13: a nil Table answers something")
	}
}

// TestForm: by which kind of node what lies beneath a type is written.
func TestForm(t *testing.T) {
	x := made(t, "type A int; type B A; type C []A; type D map[string]A; type E *A; type F func(); type S struct { }; type I interface { }; type P *S; type Q []I")
	for name, want := range map[string]api.NodeKind{"A": api.NodeName, "B": api.NodeName, "C": api.NodeSliceOf, "D": api.NodeMapOf, "E": api.NodeStar, "F": api.NodeFuncOf, "S": api.NodeStruct, "I": api.NodeInterface, "P": api.NodeStar, "Q": api.NodeSliceOf} {
		id := x.named(name)
		if got := x.Form(id); got != want || x.Form(x.Under(id)) != want {
			t.Errorf("%s is of form %d, not %d", name, got, want)
		}
		for of, form := range map[int]api.NodeKind{x.Pointer(id): api.NodeStar, x.Slice(id): api.NodeSliceOf, x.Map(1, id): api.NodeMapOf, x.Func([]int{id}, nil): api.NodeFuncOf} {
			if got := x.Form(of); got != form {
				t.Errorf("%s is of form %d, not %d", x.Show(of), got, form)
			}
		}
	}
	for id := range 3 {
		if x.Form(id) != api.NodeName {
			t.Errorf("%s is of form %d", x.Show(id), x.Form(id))
		}
	}
	var none *types.Table
	for _, id := range []int{-1, math.MinInt, math.MaxInt, 1 << 20} {
		if x.Form(id) != api.NodeNone || none.Form(id) != api.NodeNone || none.Form(0) != api.NodeNone {
			t.Errorf("P7: type %d has a form", id)
		}
	}
}
