package plan_test

import (
	"math"
	"slices"
	"strings"
	"testing"

	"moniker/api"
	"moniker/plan"
	"moniker/xref"
)

const example = "package main; func f(a int) int { b := a; return b }; func main() { print(f(1)) }"

// TestExamples: the chapter's, all of them.
func TestExamples(t *testing.T) {
	w := opened(t, files("main.go: "+example))
	d, e := decl(t, w, "a", 1), decl(t, w, "f", 1)
	these := []api.Place{at(t, w, "a", 1), at(t, w, "a", 2)}
	for _, class := range [][]int{{d}, {d, d}} {
		if got, why := plan.Places(w, class); why != api.OK || !slices.Equal(got, these) {
			t.Errorf("N1: %v: %v, %d", class, got, why)
		}
	}
	if got, why := plan.Places(w, nil); why != api.OK || len(got) > 0 {
		t.Errorf("N1: of none: %v, %d", got, why)
	}
	if got, why := plan.Places(w, []int{-1}); why != api.ErrArg || len(got) > 0 {
		t.Errorf("N1: of -1: %v, %d", got, why)
	}
	if got, why := plan.Places(nil, nil); why != api.ErrArg || len(got) > 0 {
		t.Errorf("N1: of nil: %v, %d", got, why)
	}
	if got, why := plan.Edits(w, these, "cc"); why != api.OK || len(got) != 1 || !slices.Equal(got[0], []api.Edit{{From: 21, To: 22, Text: "cc"}, {From: 39, To: 40, Text: "cc"}}) {
		t.Errorf("N2: %v, %d", got, why)
	}
	if got, why := plan.Edits(w, these, "if"); why != api.ErrNewName || len(got) > 0 {
		t.Errorf("N2: if: %v, %d", got, why)
	}
	if got, why := plan.Edits(w, []api.Place{{}}, "c"); why != api.ErrArg || len(got) > 0 {
		t.Errorf("N2: no occurrence: %v, %d", got, why)
	}
	for _, c := range []struct {
		decl int
		name string
		want []api.Clash
	}{
		{d, "c", nil},
		{d, "a", nil},
		{d, "b", []api.Clash{{Why: api.ErrNew, At: at(t, w, "b", 1)}}},
		{e, "print", []api.Clash{{Why: api.ErrBound, At: at(t, w, "print", 1)}}},
		{e, "main", []api.Clash{{Why: api.ErrSpecial, At: at(t, w, "f", 1)}}},
	} {
		if got, why := plan.Foresee(w, []int{c.decl}, c.name); why != api.OK || !slices.Equal(got, c.want) {
			t.Errorf("N4: %s: %v, %d, not %v", c.name, got, why, c.want)
		}
	}
}

// TestPlaces: N1: places of several declarations, in several files and packages; embedded types, keys, methods of interface types, a Match's variable, packages and imports.
func TestPlaces(t *testing.T) {
	w := opened(t, files(
		"a: package main; import \"x\"; type A struct { x.T; f int }; type I interface { J; m() }; type J interface { m() }; var v = A{f: 1, T: 2}; func main() { g(v.T, nil) }",
		"b: package main; import p \"x\"; func g(t p.T, i I) { i.m(); switch i := i.(type) { case nil: _ = i; case J: i.m() }; print(v.f, t, int(p.C)) }",
		"x/c: package x; type T int; const C T = 3"))
	for _, c := range []struct {
		word    string
		numbers []int // of the word's occurrences, one for each declaration
		want    []string
	}{
		{"T", []int{4}, []string{"x.@T;", "t p.@T,", "type @T int", "C @T ="}},
		{"T", []int{2}, []string{"x.@T;", "{f: 1, @T:", "v.@T,"}},
		{"T", []int{2, 4}, []string{"x.@T;", "{f: 1, @T:", "v.@T,", "t p.@T,", "type @T int", "C @T ="}},
		{"f", []int{1}, []string{"@f int", "{@f:", "v.@f,"}},
		{"m", []int{1}, []string{"J; @m()", "{ i.@m()"}},
		{"m", []int{2}, []string{"interface { @m()", "{ i.@m()", "case J: i.@m()"}},
		{"m", []int{2, 1, 2}, []string{"J; @m()", "interface { @m()", "{ i.@m()", "case J: i.@m()"}},
		{"i", []int{3}, []string{"switch @i", "_ = @i", "J: @i.m"}},
		{"i", []int{1}, []string{", @i I", "{ @i.m()", ":= @i.(type)"}},
		{"main", []int{1}, []string{"package @main; import \"x\"", "package @main; import p"}},
		{"main", []int{2}, []string{"func @main"}},
		{"p", []int{1}, []string{"import @p", "t @p.T", "int(@p.C"}},
		{"x", []int{1}, []string{"{ @x.T"}},
		{"x", []int{2}, []string{"package @x;"}},
		{"int", []int{1}, []string{"f @int", ", @int(", "T @int;"}},
		{"g", []int{1}, []string{"{ @g(v", "func @g("}},
	} {
		var class []int
		for _, n := range c.numbers {
			class = append(class, decl(t, w, c.word, n))
		}
		given := roomy(class, -5)
		got, e := plan.Places(w, given)
		if e != api.OK || len(got) != len(c.want) {
			t.Errorf("N1: %s %v: %v, %d", c.word, c.numbers, got, e)
			continue
		}
		if !slices.Equal(given[:cap(given)], append(slices.Clone(class), -5, -5, -5)) {
			t.Errorf("P4: %v", given[:cap(given)])
		}
		text := strings.Join(marked(w, got), "\n")
		last := 0
		for _, want := range c.want {
			k := strings.Index(text, want)
			if k < last {
				t.Errorf("N1: %s %v: no %s behind %d: %s", c.word, c.numbers, want, last, text)
			}
			last = max(k, last)
		}
		if strings.Count(text, "@") != len(c.want) {
			t.Errorf("N1: %s %v: %s", c.word, c.numbers, text)
		}
	}
}

// TestPlacesWrong: N1, P7.
func TestPlacesWrong(t *testing.T) {
	w := opened(t, files("a: "+example))
	count := len(w.Scopes().Decls())
	for _, d := range []int{-1, count, math.MaxInt, math.MinInt} {
		for _, class := range [][]int{{d}, {0, d}, {d, 0}, {count - 1, d, d}} {
			if got, e := plan.Places(w, class); e != api.ErrArg || len(got) > 0 {
				t.Errorf("N1: %v: %v, %d", class, got, e)
			}
			if got, e := plan.Foresee(w, class, "if"); e != api.ErrArg || len(got) > 0 {
				t.Errorf("N4: %v: %v, %d", class, got, e)
			}
		}
		if got, e := plan.Places(nil, []int{d}); e != api.ErrArg || len(got) > 0 {
			t.Errorf("N1: nil, %d: %v, %d", d, got, e)
		}
	}
	if got, e := plan.Places(w, []int{0, count - 1}); e != api.OK || len(got) == 0 {
		t.Errorf("N1: %v, %d", got, e)
	}
	if got, e := plan.Foresee(nil, nil, "c"); e != api.ErrArg || len(got) > 0 {
		t.Errorf("N4: nil: %v, %d", got, e)
	}
}

// TestEdits: N2: the order of places, and how often one stands there, play no part.
func TestEdits(t *testing.T) {
	w := opened(t, files("a: package main; import \"x\"; func main() { print(x.V, x.V) }", "b: package main; var Vé = 1", "x/c: package x\nvar V int\n", "x/d: package x; var W = V"))
	class := []int{decl(t, w, "V", 3)}
	places, _ := plan.Places(w, class)
	if len(places) != 4 {
		t.Fatal(places)
	}
	want := [][]api.Edit{{{From: 48, To: 49, Text: "new"}, {From: 53, To: 54, Text: "new"}}, {}, {{From: 14, To: 15, Text: "new"}}, {{From: 19, To: 20, Text: "new"}}}
	r := chance(1)
	for range 40 {
		given := slices.Clone(places)
		for range r.IntN(5) {
			given = append(given, pick(r, places...))
		}
		r.Shuffle(len(given), func(i, j int) { given[i], given[j] = given[j], given[i] })
		kept := roomy(given, api.Place{File: -3})
		got, e := plan.Edits(w, kept, "new")
		if e != api.OK || !slices.EqualFunc(got, want, slices.Equal[[]api.Edit]) {
			t.Fatalf("N2: %v: %v, %d", given, got, e)
		}
		if !slices.Equal(kept, given) || kept[:cap(kept)][len(kept)] != (api.Place{File: -3}) {
			t.Fatalf("P4: %v", kept)
		}
	}
	if got, e := plan.Edits(w, []api.Place{places[3], places[1]}, "é_1"); e != api.OK || !slices.EqualFunc(got, [][]api.Edit{{{From: 53, To: 54, Text: "é_1"}}, nil, nil, {{From: 19, To: 20, Text: "é_1"}}}, slices.Equal[[]api.Edit]) {
		t.Errorf("N2: some: %v, %d", got, e)
	}
	if got, e := plan.Edits(w, places[:1], "V"); e != api.OK || !slices.Equal(got[0], []api.Edit{{From: 48, To: 49, Text: "V"}}) {
		t.Errorf("N2: what stands there: %v, %d", got, e)
	}
	if got, e := plan.Edits(w, []api.Place{at(t, w, "Vé", 1)}, "x"); e != api.OK || !slices.Equal(got[1], []api.Edit{{From: 18, To: 21, Text: "x"}}) {
		t.Errorf("N2: bytes: %v, %d", got, e)
	}
	if got, e := plan.Edits(w, nil, "new"); e != api.OK || len(got) != 4 || len(slices.Concat(got...)) > 0 {
		t.Errorf("N2: of none: %v, %d", got, e)
	}
	if got, e := plan.Edits(w, []api.Place{at(t, w, "print", 1), at(t, w, "x", 1), at(t, w, "main", 1)}, "_"); e != api.OK || len(slices.Concat(got...)) != 3 {
		t.Errorf("N2: blank: %v, %d", got, e)
	}
}

// TestNames: N2: what may be put there, and what is refused first.
func TestNames(t *testing.T) {
	w := opened(t, files("a: package main; func main() { _ = 1 }"))
	here := at(t, w, "main", 1)
	long := strings.Repeat("a", api.MaxName)
	for _, name := range []string{"_", "a", "main", "init", "int", "nil", "é", "_1", "A9", "ifs", long} {
		if got, e := plan.Edits(w, []api.Place{here}, name); e != api.OK || !slices.Equal(got[0], []api.Edit{{From: 8, To: 12, Text: name}}) {
			t.Errorf("N2: %s: %v, %d", name, got, e)
		}
	}
	for _, name := range []string{"", " ", "if", "func", "package", "1", "1a", "a b", " a", "a ", "a\n", "a.b", "a/**/", "+", "\"a\"", "'a'", "\xff", "a\xff", "a\x00", "é´", long + "a"} {
		for _, places := range [][]api.Place{{here}, nil} {
			if got, e := plan.Edits(w, places, name); e != api.ErrNewName || len(got) > 0 {
				t.Errorf("N2: %q: %v, %d", name, got, e)
			}
		}
		if got, e := plan.Foresee(w, []int{0}, name); e != api.ErrNewName || len(got) > 0 {
			t.Errorf("N4: %q: %v, %d", name, got, e)
		}
		if got, e := plan.Foresee(w, nil, name); e != api.ErrNewName || len(got) > 0 {
			t.Errorf("N4: %q, no class: %v, %d", name, got, e)
		}
		for _, wrong := range []api.Place{{}, {Token: 1}, at(t, w, "_", 1), {File: 1, Token: 2}, {File: -1, Token: 2}, {Token: -1}, {Token: math.MaxInt}, {Token: math.MinInt}, {File: math.MaxInt}, {File: math.MinInt}} {
			for _, places := range [][]api.Place{{wrong}, {here, wrong}, {wrong, here}} {
				for _, name := range []string{name, "ok"} {
					if got, e := plan.Edits(w, places, name); e != api.ErrArg || len(got) > 0 {
						t.Errorf("N2: %v, %q: %v, %d", places, name, got, e)
					}
				}
			}
		}
		if got, e := plan.Edits(nil, nil, name); e != api.ErrArg || len(got) > 0 {
			t.Errorf("N2: nil, %q: %v, %d", name, got, e)
		}
	}
}

// TestFiles: N3.
func TestFiles(t *testing.T) {
	given := files("m/a: abc", "b: ", "c: de")
	one := api.Edit{From: 1, To: 2, Text: "XY"}
	for _, c := range []struct {
		edits [][]api.Edit
		want  []string
		why   api.Errno
	}{
		{[][]api.Edit{nil, nil, nil}, []string{"abc", "", "de"}, api.OK},
		{[][]api.Edit{{one}, {{Text: "z"}}, {}}, []string{"aXYc", "z", "de"}, api.OK},
		{[][]api.Edit{{{To: 1}, {From: 2, To: 3}}, nil, {one}}, []string{"b", "", "dXY"}, api.OK},
		{nil, nil, api.ErrArg},
		{[][]api.Edit{nil, nil}, nil, api.ErrArg},
		{[][]api.Edit{nil, nil, nil, nil}, nil, api.ErrArg},
		{[][]api.Edit{nil, {one}, nil, nil}, nil, api.ErrArg},
		{[][]api.Edit{{one, one}, nil, nil}, nil, api.ErrOrder},
		{[][]api.Edit{nil, {one}, nil}, nil, api.ErrSpan},
		{[][]api.Edit{nil, nil, {{From: -1}}}, nil, api.ErrSpan},
		{[][]api.Edit{{one, one}, {one}, nil}, nil, api.ErrOrder},
		{[][]api.Edit{{one}, {one}, {one, one}}, nil, api.ErrSpan},
		{[][]api.Edit{nil, nil, {{From: 2, To: 1}}}, nil, api.ErrSpan},
		{[][]api.Edit{make([]api.Edit, api.MaxEdits+1), {one}, nil}, nil, api.ErrMany},
		{[][]api.Edit{{one, one}, make([]api.Edit, api.MaxEdits+1), nil}, nil, api.ErrOrder},
		{[][]api.Edit{{{From: math.MinInt, To: math.MaxInt}}, nil, nil}, nil, api.ErrSpan},
	} {
		kept, lists := roomy(given, api.File{Name: "spare"}), slices.Clone(c.edits)
		for i := range lists {
			lists[i] = roomy(lists[i], one)
		}
		got, e := plan.Files(kept, lists)
		var texts []string
		for i, f := range got {
			texts = append(texts, f.Text)
			if f.Name != given[i].Name {
				t.Errorf("N3: %v", f)
			}
		}
		if e != c.why || !slices.Equal(texts, c.want) {
			t.Errorf("N3: %.100v: %q, %d, not %q, %d", c.edits, texts, e, c.want, c.why)
		}
		if !slices.Equal(kept, given) || kept[:cap(kept)][len(kept)].Name != "spare" || !slices.EqualFunc(lists, c.edits, slices.Equal[[]api.Edit]) {
			t.Errorf("P4: %.100v", c.edits)
		}
		for _, l := range lists {
			if !slices.Equal(l[len(l):cap(l)], []api.Edit{one, one, one}) {
				t.Errorf("P4: spare room %v", l[len(l):cap(l)])
			}
		}
		if len(got) > 0 {
			spoil(kept, api.File{Name: "x", Text: "y"})
			if got[0].Name != "m/a" || got[2].Text != c.want[2] {
				t.Errorf("P4: %v", got)
			}
		}
	}
	if got, e := plan.Files(nil, nil); e != api.OK || len(got) > 0 {
		t.Errorf("N3: of none: %v, %d", got, e)
	}
	if got, e := plan.Files(nil, [][]api.Edit{nil}); e != api.ErrArg || len(got) > 0 {
		t.Errorf("N3: %v, %d", got, e)
	}
}

// TestNewMemory: P4: what was told is written over, and asked again; no list reaches into another.
func TestNewMemory(t *testing.T) {
	w := opened(t, someFiles(chance(2)))
	var all []int
	for d := range w.Scopes().Decls() {
		all = append(all, d)
	}
	var first [][]api.Edit
	for range 3 {
		places, e := plan.Places(w, all)
		if e != api.OK || !slices.Equal(places, occurrences(w)) {
			t.Fatalf("N8: %d", e)
		}
		lists, _ := plan.Edits(w, places, "n")
		again, _ := plan.Edits(w, places, "n")
		if first == nil {
			first, _ = plan.Edits(w, places, "n")
		}
		spoil(places, api.Place{File: -1})
		for i := range lists {
			if !slices.EqualFunc(lists[i:], again[i:], slices.Equal[[]api.Edit]) || !slices.EqualFunc(first, again, slices.Equal[[]api.Edit]) {
				t.Fatalf("P4: list %d", i)
			}
			spoil(lists[i], api.Edit{From: -1})
			lists[i] = append(lists[i], api.Edit{From: -2}, api.Edit{From: -3})
		}
		clashes, _ := plan.Foresee(w, []int{0, 1, 2}, "n")
		spoil(clashes, api.Clash{Why: 7})
		if now, _ := plan.Foresee(w, []int{0, 1, 2}, "n"); len(now) != len(clashes) || slices.Contains(now, api.Clash{Why: 7}) {
			t.Fatalf("P4: %v", now)
		}
	}
	if x, _ := xref.Alike(w, opened(t, w.Program().Files())); x != api.OK {
		t.Error("P4: the Whole changed")
	}
}
