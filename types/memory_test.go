package types_test

import (
	"fmt"
	"slices"
	"strings"
	"sync"
	"testing"
	"time"

	"moniker/api"
	"moniker/modules"
	"moniker/scope"
	"moniker/types"
)

const busy = "type S struct { a, b int; *T; U }; type T struct { c []S; *V }; type U interface { m(int) S; W }; type W interface { n(); m(int) S }; type V map[string]func(S) U; func (v *V) o(a, b int) { type L struct { S } }; func (s S) n() { }"

// whole is all that a table tells of the types that are written, and of those made of them.
func whole(x table) string {
	var out strings.Builder
	ids := x.ids()
	for i := range x.p.Files() {
		for n := range x.p.Tree(i).Nodes {
			fmt.Fprint(&out, x.Show(x.Written(i, n)), " ")
		}
	}
	for i := range x.decls {
		fmt.Fprint(&out, x.Show(x.Named(i)), x.Show(x.Of(i)), " ")
	}
	for _, id := range ids {
		one, two := x.Parts(id)
		for _, part := range one {
			fmt.Fprint(&out, x.Show(part), " ")
		}
		fmt.Fprint(&out, len(two), x.Show(id), x.Show(x.Under(id)), x.Methods(id))
		for _, name := range []string{"a", "c", "m", "n", "o", "T", "V", "W", "", "_"} {
			d, way, many := x.Look(id, name)
			fmt.Fprint(&out, d, way, many, x.Met(id, name))
		}
		for _, to := range ids {
			fmt.Fprint(&out, x.Satisfies(id, to), x.Assignable(id, to))
		}
	}
	return out.String()
}

// TestNewMemory: lists that are handed out are new, those that are handed in are not kept and not changed (10.6, 10.13, P4).
func TestNewMemory(t *testing.T) {
	x := made(t, busy)
	want := whole(x)
	spoil := func(lists ...[]int) {
		for _, l := range lists {
			for i := range l[:cap(l)] {
				l[:cap(l)][i] = -5
			}
		}
	}
	for _, id := range append(x.ids(), x.Func([]int{1, 2, 0}, []int{0, 1}), x.Map(1, 2)) {
		one, two := x.Parts(id)
		kept := slices.Clone(two)
		spoil(one)
		if !slices.Equal(two, kept) {
			t.Errorf("P4: the two lists of Parts(%s) share room", x.Show(id))
		}
		spoil(two, x.Methods(id))
		for _, name := range []string{"a", "c", "m", "o", "T"} {
			_, way, _ := x.Look(id, name)
			spoil(way, x.Met(id, name))
		}
	}
	if got := whole(x); got != want {
		t.Error("P4: the table changed with its answers")
	}
	given := slices.Grow([]int{1, 2, 1}, 5)
	spare := given[:cap(given)]
	for i := 3; i < len(spare); i++ {
		spare[i] = -i
	}
	before := slices.Clone(spare)
	id := x.Func(given[:2], given)
	if !slices.Equal(spare, before) {
		t.Error("P4: a list that was handed in was changed")
	}
	text := x.Show(id)
	spoil(spare)
	if x.Show(id) != text || text != "func(int, string) (int, string, int)" || x.Func([]int{1, 2}, []int{1, 2, 1}) != id {
		t.Error("P4: a list that was handed in was kept")
	}
	if x.Func(nil, []int{}) != x.Func([]int{}, nil) || x.Show(x.Func([]int{}, []int{})) != "func()" {
		t.Error("P3: nil and empty lists")
	}
}

// TestSameAnswers: what a table tells hangs on nothing but the program, whatever it was asked, by several at once (10.13, P5).
func TestSameAnswers(t *testing.T) {
	x := made(t, busy)
	want := whole(x)
	packs := fmt.Sprint(x.p.Packs(), x.p.Order(), x.p.Tree(0), x.Scopes().Decls())
	var wait sync.WaitGroup
	for n := range 6 {
		wait.Go(func() {
			id := n % 3
			for i := range 40 {
				switch (i + n) % 4 {
				case 0:
					id = x.Pointer(id)
				case 1:
					id = x.Slice(id)
				case 2:
					id = x.Map(n%3, id)
				case 3:
					id = x.Func([]int{id, 1}, []int{id})
					id = x.Under(id)
					one, _ := x.Parts(id)
					id = one[0]
				}
				if i%8 == 0 && whole(x) != want {
					t.Error("P5: another story")
				}
			}
		})
	}
	wait.Wait()
	if whole(x) != want || packs != fmt.Sprint(x.p.Packs(), x.p.Order(), x.p.Tree(0), x.Scopes().Decls()) {
		t.Error("P5: another story, or another program")
	}
	for range 3 {
		y, _ := types.Make(x.p, x.Scopes())
		if whole(table{y, x.p, x.decls}) != want {
			t.Error("P5: another table")
		}
	}
}

// TestAgain: the same files have the same fault each time (P5).
func TestAgain(t *testing.T) {
	r := chance(70)
	for range 200 {
		given := someFiles(r, 15)
		p, s := bound(t, given)
		_, f := types.Make(p, s)
		for range 2 {
			if _, g := types.Make(p, s); f != g {
				t.Fatalf("P5: %q: %v, %v", given, f, g)
			}
		}
	}
}

// many is a part again and again, with a number of its own in the place of #, and that number less one in the place of ~.
func many(count int, one string) string {
	var out strings.Builder
	for i := range count {
		out.WriteString(strings.NewReplacer("#", fmt.Sprint(i+1), "~", fmt.Sprint(i)).Replace(one))
	}
	return out.String()
}

// TestWork: chains, and what stands many times over, do not take long (P1).
func TestWork(t *testing.T) {
	for name, lines := range map[string]string{
		"right sides": "type T0 int;" + many(8000, "type T# T~;"), "backwards": many(8000, "type T~ T#;") + "type T8000 int", "embedded": "type T0 struct{x int};" + many(5500, "type T# struct{T~};"), "doubled": "type T0 struct{x int};type U0 struct{x int};" + many(2000, "type T# struct{T~;U~};type U# struct{T~;*U~};"), "pointers": "type T0 struct{*T1;*T2};type T1 struct{*T0;*T2};type T2 struct{*T0;*T1;x int}", "faces": "type I0 interface{m()};" + many(5000, "type I# interface{I~;m#()};"), "doubled faces": "type I0 interface{m()};type J0 interface{m()};" + many(2500, "type I# interface{I~;J~};type J# interface{I~;J~};"), "faces that clash elsewhere": "type J0 interface{m1()int};type I0 interface{m()};" + many(2000, "type I# interface{I~;m#()};"), "methods": "type T0 int;" + many(5000, "func(t T0)m#(){};"), "fields": "type T0 struct{" + many(10000, "a# int;") + "}", "a cycle": many(8000, "type T~ T#;") + "type T8000 T0", "nothing of a cycle": many(8000, "type T~ T#;") + "type T8000 T8000", "deep types": "var v " + strings.Repeat("[]", 240) + "int", "a wrong end": many(8000, "type T~ T#;") + "type T8000 v; var v int",
	} {
		p, f := modules.Load([]api.File{{Name: "a", Text: "package main;" + lines}})
		if f != (api.Fault{}) {
			t.Fatalf("%s: %v", name, f)
		}
		s, f := scope.Resolve(p)
		if f != (api.Fault{}) {
			t.Fatalf("%s: %v", name, f)
		}
		begin := time.Now()
		x, _ := types.Make(p, s)
		decls := s.Decls()
		for i, d := range decls {
			if d.Kind != api.DeclType || i > 20 && i < len(decls)-20 {
				continue
			}
			id := x.Named(i)
			x.Look(id, "x")
			x.Met(id, "x")
			x.Methods(x.Pointer(id))
			x.Satisfies(id, x.Named(15))
			x.Assignable(id, 1)
		}
		if took := time.Since(begin); took > 5*time.Second {
			t.Errorf("P1: %s: %v", name, took)
		}
	}
}

// TestDeepTypes: types made of one another as deep as is promised.
func TestDeepTypes(t *testing.T) {
	x := made(t, "type T int")
	id := x.named("T")
	for range 1 << 16 {
		id = x.Slice(id)
	}
	if got := x.Show(id); len(got) != 2<<16+4 || !strings.HasSuffix(got, `[]"".T`) || x.Under(id) != id {
		t.Errorf("10.4: %d bytes", len(got))
	}
}
