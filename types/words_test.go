package types_test

import (
	"slices"
	"sync"
	"testing"

	"moniker/api"
	"moniker/modules"
	"moniker/scope"
	"moniker/types"
)

// holdAgainst holds Make of a program against the words, and tells the fault.
func holdAgainst(t *testing.T, given []api.File) api.Errno {
	p, f := modules.Load(given)
	if f != (api.Fault{}) {
		text := given[f.File].Text
		t.Fatalf("no program: %v: %q", f, text[max(0, f.At-200):min(len(text), f.At+20)])
	}
	s, f := scope.Resolve(p)
	if f != (api.Fault{}) {
		text := given[f.File].Text
		t.Fatalf("no scopes: %v: %q", f, text[max(0, f.At-200):min(len(text), f.At+20)])
	}
	x, f := types.Make(p, s)
	w := wordsOf(p, s)
	if want := w.first(); f != want || (x == nil) != (f != api.Fault{}) {
		t.Fatalf("10.1: %q: %v, not %v", given, f, want)
	}
	if x != nil {
		compare(t, given, x, w)
	}
	return f.Why
}

// compare asks a table for all that it tells, and holds it against the words.
func compare(t *testing.T, given []api.File, x *types.Table, w *told) {
	texts := map[string]int{"bool": 0, "int": 1, "string": 2}
	for _, g := range w.pages {
		for n := range g.tree.Nodes {
			id, want := x.Written(g.number, n), w.text(g, n)
			if got := x.Show(id); got != want || (id == -1) != (want == "") {
				t.Fatalf("10.4, 10.5: %q: file %d, node %d: %q, not %q", given, g.number, n, got, want)
			}
			if other, ok := texts[want]; ok && other != id {
				t.Fatalf("10.4: %q: %q has two numbers", given, want)
			}
			if id >= 0 {
				texts[want] = id
			}
		}
	}
	for d := range w.decls {
		id := x.Named(d)
		if got, want := x.Show(id), w.shown(d); got != want || (id == -1) != (want == "") {
			t.Fatalf("10.5: %q: Named(%d) is %q, not %q", given, d, got, want)
		}
		want := ""
		if k := w.decls[d].Kind; k == api.DeclField || k == api.DeclEmbed || k == api.DeclMethod || k == api.DeclShape {
			want = w.of(d)
		}
		if got := x.Show(x.Of(d)); got != want || (x.Of(d) == -1) != (want == "") {
			t.Fatalf("10.8: %q: Of(%d) is %q, not %q", given, d, got, want)
		}
		if w.decls[d].Kind == api.DeclType {
			texts[want] = id
			texts["*"+x.Show(id)] = x.Pointer(id)
		}
	}
	delete(texts, "")
	for text, id := range texts {
		compareType(t, given, x, w, text, id)
		for other, to := range texts {
			if got, want := x.Satisfies(id, to), w.satisfies(text, other); got != want {
				t.Fatalf("10.12: %q: Satisfies(%s, %s) = %t", given, text, other, got)
			}
			if got, want := x.Assignable(id, to), w.assignable(text, other); got != want {
				t.Fatalf("10.12: %q: Assignable(%s, %s) = %t", given, text, other, got)
			}
		}
	}
}

func compareType(t *testing.T, given []api.File, x *types.Table, w *told, text string, id int) {
	if got, want := x.Show(x.Under(id)), w.under(text); got != want {
		t.Fatalf("10.7: %q: Under(%s) = %q, not %q", given, text, got, want)
	}
	if got, want := x.Methods(id), w.methods(text); !slices.Equal(got, want) {
		t.Fatalf("10.11: %q: Methods(%s) = %v, not %v", given, text, got, want)
	}
	names := append(slices.Clone(pool), "T0", "T1", "T2", "S", "N", "J", "K", "", "_", "z")
	for _, name := range names {
		d, way, many := x.Look(id, name)
		e, wordWay, wordMany := w.look(text, name)
		if d != e || !slices.Equal(way, wordWay) || many != wordMany {
			t.Fatalf("10.9: %q: Look(%s, %s) = %d %v %t, not %d %v %t", given, text, name, d, way, many, e, wordWay, wordMany)
		}
		if got, want := x.Met(id, name), w.met(text, name); !slices.Equal(got, want) {
			t.Fatalf("10.10: %q: Met(%s, %s) = %v, not %v", given, text, name, got, want)
		}
		got := slices.DeleteFunc(x.Members(id), func(d int) bool { return w.decls[d].Name != name })
		want := slices.Concat(w.met(text, name), w.has(text, name)) // what is met from a struct type, its own once more
		slices.Sort(want)
		if want = slices.Compact(want); name != "" && !slices.Equal(got, want) {
			t.Fatalf("%q: Members(%s), of them %s: %v, not %v", given, text, name, got, want)
		}
	}
}

// TestWords: Make and its table against the words of 0.6 and chapter 10, over programs by chance (10.1 to 10.12).
func TestWords(t *testing.T) {
	var lock sync.Mutex
	whys := map[api.Errno]int{}
	t.Run("", func(t *testing.T) {
		for seed, wild := range []int{6, 12, 20, 30, 60, 200, 1000, 10000} {
			t.Run("", func(t *testing.T) {
				t.Parallel()
				r := chance(uint64(seed))
				for range 200 {
					why := holdAgainst(t, someFiles(r, wild))
					lock.Lock()
					whys[why]++
					lock.Unlock()
				}
			})
		}
	})
	for _, why := range []api.Errno{api.OK, api.ErrCycle, api.ErrType, api.ErrForm, api.ErrKey, api.ErrEmbed, api.ErrRecv, api.ErrTwice} {
		if whys[why] < 3 {
			t.Errorf("only %d with fault %d", whys[why], why)
		}
	}
}
