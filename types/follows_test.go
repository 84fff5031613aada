package types_test

import (
	"fmt"
	"math/rand/v2"
	"slices"
	"strings"
	"testing"

	"moniker/api"
	"moniker/modules"
	"moniker/scope"
	"moniker/types"
)

// taken calls do with drafts by chance of which Make takes the files.
func taken(t *testing.T, seed uint64, count int, do func(r *rand.Rand, d draft, given []api.File, x table)) {
	t.Helper()
	r := chance(seed)
	for count > 0 {
		d := someDraft(r, 3000)
		given := d.files(r)
		p, s := bound(t, given)
		if x, f := types.Make(p, s); f == (api.Fault{}) {
			do(r, d, given, table{x, p, s.Decls()})
			count--
		}
	}
}

// ids are the declared types of a table, * of them, and some made of them.
func (x table) ids() []int {
	out := []int{0, 1, 2}
	for i, d := range x.decls {
		if d.Kind == api.DeclType {
			id := x.Named(i)
			out = append(out, id, x.Pointer(id), x.Slice(id), x.Under(id))
		}
	}
	return out
}

func (x table) isInterface(id int) bool { return x.isBody(id, api.NodeInterface) }

// isBody tells whether a type is declared with a Struct, or an Interface.
func (x table) isBody(id int, kind api.NodeKind) bool {
	for i := range x.p.Files() {
		for n, node := range x.p.Tree(i).Nodes {
			if node.Kind == kind && x.Written(i, n) == id && id >= 0 {
				return true
			}
		}
	}
	return false
}

// TestReflexiveTransitive: 10.14.
func TestReflexiveTransitive(t *testing.T) {
	steps := 0
	taken(t, 60, 60, func(_ *rand.Rand, _ draft, given []api.File, x table) {
		ids := x.ids()
		faces := slices.DeleteFunc(slices.Clone(ids), func(id int) bool { return !x.isInterface(id) })
		for _, id := range ids {
			if !x.Assignable(id, id) || x.Satisfies(id, id) != slices.Contains(faces, id) {
				t.Fatalf("10.14: %q: %s itself", given, x.Show(id))
			}
			for _, i := range faces {
				for _, j := range faces {
					if x.Satisfies(id, i) && x.Satisfies(i, j) {
						steps++
						if !x.Satisfies(id, j) {
							t.Fatalf("10.14: %q: %s, %s, %s", given, x.Show(id), x.Show(i), x.Show(j))
						}
					}
				}
			}
		}
	})
	if steps < 1000 {
		t.Errorf("only %d", steps)
	}
}

// TestPointerSets: 10.15. TestFoundIsMet: 10.16.
func TestPointerSets(t *testing.T) {
	more := 0
	taken(t, 61, 150, func(_ *rand.Rand, _ draft, given []api.File, x table) {
		for i, d := range x.decls {
			id := x.Named(i)
			if d.Kind != api.DeclType || x.isInterface(id) || strings.HasPrefix(x.Show(x.Under(id)), "*") {
				continue
			}
			set, pointed := x.Methods(id), x.Methods(x.Pointer(id))
			more += len(pointed) - len(set)
			for _, m := range set {
				if !slices.Contains(pointed, m) {
					t.Fatalf("10.15: %q: %s of %s", given, x.owners(m), x.Show(id))
				}
			}
		}
	})
	if more < 20 {
		t.Errorf("only %d", more)
	}
}

func TestFoundIsMet(t *testing.T) {
	one, deep := 0, 0
	taken(t, 62, 120, func(_ *rand.Rand, _ draft, given []api.File, x table) {
		for i, d := range x.decls {
			id := x.Named(i)
			if d.Kind != api.DeclType || !x.isBody(id, api.NodeStruct) {
				continue
			}
			for _, name := range append(slices.Clone(pool), "T0", "T1", "T2") {
				found, way, many := x.Look(id, name)
				met := x.Met(id, name)
				if found >= 0 && !slices.Contains(met, found) || len(met) == 1 && found != met[0] && !many || found < 0 && !many && len(met) > 0 {
					t.Fatalf("10.16: %q: %s in %s", given, name, x.Show(id))
				}
				if len(met) == 1 {
					one++
				}
				if len(way) > 1 {
					deep++
				}
			}
		}
	})
	if one < 200 || deep < 40 {
		t.Errorf("only %d, %d", one, deep)
	}
}

// TestOneMore: what embedding one type more leaves as it is (10.17). The new type stands in a file behind all others, its field ahead of all others of the struct type.
func TestOneMore(t *testing.T) {
	const apart = "package main\ntype Q struct { q1 int; *Q2 }\ntype Q2 struct { q2 int }\nfunc (q Q2) q3() { }"
	const same = "package main\ntype Q struct { a, b, k int; m, n, A string; *Q2 }\ntype Q2 struct { M int }"
	kept := map[int]int{}
	taken(t, 63, 250, func(r *rand.Rand, _ draft, given []api.File, x table) {
		name := fmt.Sprint("T", r.IntN(9))
		for text, all := range map[string]bool{apart: true, same: false} {
			longer := slices.Clone(given)
			file, at := -1, 0
			for i, f := range longer {
				if head := "\ntype " + name + " struct { "; strings.Contains(f.Text, head) {
					before, behind, _ := strings.Cut(f.Text, head)
					file, at = i, len(before)+len(head)
					longer[i].Text = before + head + pick(r, "Q; ", "*Q; ") + behind
				}
			}
			if file < 0 {
				return
			}
			longer = append(longer, api.File{Name: "z", Text: text})
			y := madeOf(t, longer)
			now := func(d int) int { // the number that a declaration has now
				from := x.decls[d].At
				if from.File > file || from.File == file && x.p.Tokens(file)[from.Token].From >= at {
					return d + 1
				}
				return d
			}
			id := x.named(name)
			for _, member := range append(slices.Clone(pool), "T0", "T1", "Q9") {
				found, way, _ := x.Look(id, member)
				if found < 0 || len(way) > 0 && !all {
					continue
				}
				kept[min(len(way), 2)]++
				again, newWay, _ := y.Look(y.named(name), member)
				for i := range way {
					way[i] = now(way[i])
				}
				if again != now(found) || !slices.Equal(newWay, way) {
					t.Fatalf("10.17: %q: Look(%s, %s) was %s, is %s", longer, name, member, x.look(id, member), y.look(y.named(name), member))
				}
			}
		}
	})
	if kept[0] < 100 || kept[1] < 50 || kept[2] < 20 {
		t.Errorf("only %v", kept)
	}
}

// story is what a table tells of the types at package level, without numbers and places.
func story(x table) string {
	var ids []int
	for i, d := range x.decls {
		if id := x.Named(i); d.Kind == api.DeclType && !strings.Contains(x.Show(id), "#") {
			ids = append(ids, id, x.Pointer(id), x.Slice(id))
		}
	}
	slices.SortFunc(ids, func(a, b int) int { return strings.Compare(x.Show(a), x.Show(b)) })
	var out strings.Builder
	for _, id := range ids {
		fmt.Fprintln(&out, x.Show(id), x.Show(x.Under(id)), x.names(x.Methods(id)))
		for _, name := range append(slices.Clone(pool), "T0", "T1", "T2") {
			d, way, many := x.Look(id, name)
			kind := ""
			if d >= 0 {
				kind = x.Show(x.Of(d))
				if x.decls[d].Kind != api.DeclShape { // which of several methods of one name stands for them hangs on their order
					kind += x.owners(d)
				}
			}
			met := strings.Fields(x.owners(x.Met(id, name)...))
			slices.Sort(met)
			fmt.Fprintln(&out, name, kind, x.owners(way...), many, met)
		}
		for _, to := range ids {
			fmt.Fprint(&out, x.Satisfies(id, to), x.Assignable(id, to))
		}
	}
	return out.String()
}

// TestAnyOrder: the order of files, types, functions and methods changes no answer but by numbers and places (10.18), nor whether there is a fault.
func TestAnyOrder(t *testing.T) {
	taken(t, 64, 60, func(r *rand.Rand, d draft, given []api.File, x table) {
		other := d.files(r)
		if a, b := story(x), story(madeOf(t, other)); a != b {
			t.Fatalf("10.18: %q: %s\n%q: %s", given, a, other, b)
		}
	})
	r := chance(65)
	refused := 0
	for range 300 {
		d := someDraft(r, 30)
		one, two := d.files(r), d.files(r)
		p, s := bound(t, one)
		q, u := bound(t, two)
		x, _ := types.Make(p, s)
		y, _ := types.Make(q, u)
		if (x == nil) != (y == nil) {
			t.Fatalf("10.18: %q: %t; %q: %t", one, x != nil, two, y != nil)
		}
		if x == nil {
			refused++
		}
	}
	if refused < 30 {
		t.Errorf("only %d refused", refused)
	}
}

// TestFieldOrder: the order of fields with other names changes no answer (10.18).
func TestFieldOrder(t *testing.T) {
	fields := []string{"a int", "b T", "*A", "B", "x.I", "k, n []string"}
	r := chance(66)
	want := ""
	for range 12 {
		r.Shuffle(len(fields), func(i, j int) { fields[i], fields[j] = fields[j], fields[i] })
		x := madeOf(t, files("a: package main; import \"x\"; type S struct { "+strings.Join(fields, "; ")+" }; type T int; type A struct { m int; a string; T }; type B struct { *T; k int }; func (b *B) M() { }; func (s S) A2() { }; type J interface { M() }", "x/a: package x; type I interface { m(); b() }"))
		if got := story(x); want != "" && got != want {
			t.Fatalf("10.18: %q: %s, not %s", fields, got, want)
		} else {
			want = got
		}
	}
}

// TestBelong: a program and scopes of different programs, or none (10.1, P6).
func TestBelong(t *testing.T) {
	p, s := bound(t, files("a: package main; type T int"))
	q, u := bound(t, files("a: package main; type T int"))
	none := api.Fault{Why: api.ErrArg}
	for _, c := range []struct {
		p    *modules.Program
		s    *scope.Scopes
		want api.Fault
	}{{p, s, api.Fault{}}, {q, u, api.Fault{}}, {p, u, none}, {q, s, none}, {nil, s, none}, {p, nil, none}, {nil, nil, none}} {
		x, f := types.Make(c.p, c.s)
		if f != c.want || (x == nil) != (f != api.Fault{}) || x.Scopes() != c.s && x != nil {
			t.Errorf("P6: %v, not %v", f, c.want)
		}
	}
	again, _ := scope.Resolve(p)
	if x, f := types.Make(p, again); x == nil || f != (api.Fault{}) || x.Scopes() != again {
		t.Errorf("P6: other scopes of the same program: %v", f)
	}
}
