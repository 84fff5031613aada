package plan_test

import (
	"slices"
	"strings"
	"testing"

	"moniker/api"
	"moniker/edits"
	"moniker/lexer"
	"moniker/modules"
	"moniker/plan"
	"moniker/scope"
	"moniker/ties"
	"moniker/xref"
)

// expected is a clash at the word's occurrence of a number; of the word "" at file 0, piece 0.
type expected struct {
	why    api.Errno
	word   string
	number int
}

// TestForesee: N4: a clash that modules tells, those that scope tells, those of ErrBound.
func TestForesee(t *testing.T) {
	for _, c := range []struct {
		files  []string
		word   string
		number int
		name   string
		want   []expected
	}{
		// modules
		{[]string{"a: package main; func main() { }"}, "main", 1, "other", []expected{{api.ErrMain, "", 0}}},
		{[]string{"a: /* a */ package main; func main() { }"}, "main", 1, "other", []expected{{api.ErrMain, "", 0}}},
		{[]string{"a: package main; func main() { }"}, "main", 1, "_", []expected{{api.ErrPackage, "main", 1}}},
		{[]string{"a: package main; func main() { }", "x/b: package x", "x/c: /* é */ package x"}, "x", 2, "_", []expected{{api.ErrPackage, "x", 1}}},
		{[]string{"a: package main; func main() { }", "x/b: package x"}, "x", 1, "main", []expected{{api.ErrMain, "", 0}}},
		{[]string{"a: package main; func main() { }", "x/b: package x"}, "x", 1, "y", nil},
		{[]string{"a: package main; import p \"x\"; func main() { p.F() }", "x/b: package x; func F() { }"}, "p", 1, "_", []expected{{api.ErrBlank, "p", 1}}},
		// scope
		{[]string{"a: package main; import \"x\"; func main() { x.F() }", "x/b: package x; func F() { }"}, "x", 2, "y", []expected{{api.ErrUnknown, "x", 1}}},
		{[]string{"a: package main; var a, b int; func main() { }"}, "a", 1, "b", []expected{{api.ErrTwice, "b", 1}}},
		{[]string{"a: package main; var a, b int; func main() { }"}, "b", 1, "a", []expected{{api.ErrTwice, "b", 1}}},
		{[]string{"a: package main; var a int; func main() { }", "b: package main; type b int"}, "a", 1, "b", []expected{{api.ErrTwice, "b", 1}}},
		{[]string{"a: package main; import \"x\"; func main() { x.F() }; var a int", "x/b: package x; func F() { }"}, "a", 1, "x", []expected{{api.ErrTwice, "\"x\"", 1}}},
		{[]string{"a: package main; import p \"x\"; func main() { p.F() }; var a int", "x/b: package x; func F() { }"}, "p", 1, "a", []expected{{api.ErrTwice, "p", 1}}},
		{[]string{"a: package main; func f(a, b int) { }; func main() { }"}, "a", 1, "b", []expected{{api.ErrTwice, "b", 1}}},
		{[]string{"a: package main; func f() { L: for { M: for { break L; continue M } } }; func main() { }"}, "M", 2, "L", []expected{{api.ErrTwice, "M", 1}}},
		{[]string{"a: package main; var a int; func main() { }"}, "a", 1, "init", []expected{{api.ErrSpecial, "a", 1}}},
		{[]string{"a: package main; type A struct { a int }; func main() { }"}, "a", 1, "main", []expected{{api.ErrSpecial, "a", 1}}},
		{[]string{"a: package main; func f() { }; func main() { f() }"}, "f", 1, "init", []expected{{api.ErrUnknown, "f", 2}}},
		{[]string{"a: package main; func main() { i := f(nil); _ = i }; type I interface { }; func f(i I) I { switch s := i.(type) { case nil: t := 1; _ = t; default: _ = s }; return i }"}, "s", 2, "t", []expected{{api.ErrNew, "t", 1}}},
		{[]string{"a: package main; func main() { print(1) }; const c int = 1"}, "print", 1, "c", []expected{{api.ErrBound, "print", 1}}},
		{[]string{"a: package main; import p \"x\"; func main() { print(p.C) }", "x/b: package x; const C = 1"}, "print", 1, "p", []expected{{api.ErrUse, "print", 1}}},
		{[]string{"a: package main; func main() { print(1) }", "b: package main; import \"x\"; func f() { print(1); x.F() }", "x/c: package x; func F() { print(2) }"}, "print", 1, "nothing", []expected{{api.ErrUnknown, "print", 3}}},
		// ErrBound: caught by a nearer name, catching others, in several files and packages
		{[]string{"a: package main; var a int; func f(b int) int { return a }; func main() { }"}, "a", 1, "b", []expected{{api.ErrBound, "a", 2}}},
		{[]string{"a: package main; var a int; func f(b int) int { return a }; func main() { }"}, "b", 1, "a", []expected{{api.ErrBound, "a", 2}}},
		{[]string{"a: package main; var a int; func f(b int) int { return b }; func main() { }"}, "b", 1, "a", nil},
		{[]string{"a: package main; func f() int { a := 1; { b := 2; print(a, b, a) }; return a }; func main() { }"}, "b", 1, "a", []expected{{api.ErrBound, "a", 2}, {api.ErrBound, "a", 3}}},
		{[]string{"a: package main; func main() { print(len(\"\")) }", "b: package main; func f(s string) int { return len(s) }; func g(len int) int { return len }", "x/c: package x; func F() int { return len(\"\") }; func G() int { return 1 }"}, "f", 1, "len", []expected{{api.ErrBound, "len", 1}, {api.ErrBound, "len", 2}}},
		{[]string{"a: package main; func main() { print(len(\"\")) }", "b: package main; func f(s string) int { return len(s) }; func g(len int) int { return len }", "x/c: package x; func F() int { return len(\"\") }; func G() int { return 1 }"}, "G", 1, "len", []expected{{api.ErrBound, "len", 5}}},
		{[]string{"a: package main; import p \"x\"; func main() { v := 1; print(v, p.C) }", "x/b: package x; const C = 1"}, "p", 1, "v", []expected{{api.ErrBound, "p", 2}, {api.ErrBound, "C", 1}}},
		{[]string{"a: package main; import p \"x\"; func main() { v := 1; print(v, p.C) }", "x/b: package x; const C = 1"}, "v", 1, "p", []expected{{api.ErrBound, "p", 2}, {api.ErrBound, "C", 1}}},
		{[]string{"a: package main; type A int; type B struct { A; int }; type int string; func main() { }"}, "A", 1, "int", []expected{{api.ErrTwice, "int", 3}}},
		{[]string{"a: package main; func main() { L: for { a := 1; print(a); break L } }"}, "L", 1, "a", nil},
		{[]string{"a: package main; type A struct { f, g int }; func (a A) h() { }; func main() { f := 1; print(A{f: f}.f) }"}, "g", 1, "f", nil},
		// a field's key, bound by scope to something of its name or not, is the field's; a map's is not
		{[]string{"a: package main; type A struct { f int }; var g = 1; func main() { print(A{f: g}.f) }"}, "g", 1, "f", nil},
		{[]string{"a: package main; type A struct { f int }; var g = 1; func main() { print(A{f: g}.f) }"}, "f", 1, "g", nil},
		{[]string{"a: package main; type A struct { f int }; var f = 1; func main() { print(A{f: f}.f) }"}, "f", 2, "g", nil},
		{[]string{"a: package main; type A struct { f int }; var f = 1; func main() { print(A{f: f}.f) }"}, "f", 1, "g", nil},
		{[]string{"a: package main; var f = 1; func main() { g := 2; print(g, map[int]int{f: f}[1]) }"}, "g", 1, "f", []expected{{api.ErrBound, "f", 2}, {api.ErrBound, "f", 3}}},
		{[]string{"a: package main; const f = 1; func main() { g := []int{f: f}; print(len(g)) }"}, "f", 1, "len", []expected{{api.ErrBound, "len", 1}}},
		// the blank name: nothing is made, and all numbers behind it are others
		{[]string{"a: package main; func f(a int) { }; func main() { }"}, "a", 1, "_", []expected{{api.ErrBound, "a", 1}, {api.ErrBound, "main", 2}}},
		{[]string{"a: package main; func main() { }; func f(a int) { }"}, "a", 1, "_", []expected{{api.ErrBound, "a", 1}}},
		{[]string{"a: package main; func f(c int) { a, b := 1, c; print(a, b) }; func main() { }"}, "a", 1, "c", []expected{{api.ErrBound, "a", 1}, {api.ErrBound, "b", 1}, {api.ErrBound, "a", 2}, {api.ErrBound, "b", 2}, {api.ErrBound, "main", 2}}},
	} {
		w := opened(t, files(c.files...))
		var want []api.Clash
		for _, x := range c.want {
			clash := api.Clash{Why: x.why}
			if x.word != "" {
				clash.At = at(t, w, x.word, x.number)
			}
			want = append(want, clash)
		}
		got, e := plan.Foresee(w, []int{decl(t, w, c.word, c.number)}, c.name)
		if e != api.OK || !slices.Equal(got, want) {
			t.Errorf("N4: %q: %s %d to %s: %v, %d, not %v", c.files, c.word, c.number, c.name, got, e, want)
		}
	}
}

// TestForeseeNothing: N4: no class, and the name that is there already.
func TestForeseeNothing(t *testing.T) {
	r := chance(3)
	for range 6 {
		w := opened(t, someFiles(r))
		for _, name := range []string{"A", "_", "main", "print", "Fresh"} {
			if got, e := plan.Foresee(w, nil, name); e != api.OK || len(got) > 0 {
				t.Fatalf("N4: none to %s: %v, %d", name, got, e)
			}
		}
		for d, x := range w.Scopes().Decls() {
			if got, e := plan.Foresee(w, []int{d}, x.Name); e != api.OK || len(got) > 0 {
				t.Fatalf("N4: %s to itself: %v, %d", x.Name, got, e)
			}
		}
	}
}

// foreseen is the model: the words of N4, with texts put together piece by piece.
func foreseen(w *xref.Whole, class []int, name string) []api.Clash {
	now := rewritten(w, func(at api.Place, _ api.Token, old string) string {
		if slices.ContainsFunc(w.Decls(at), func(d int) bool { return slices.Contains(class, d) }) {
			return name
		}
		return old
	})
	p, f := modules.Load(now)
	var s *scope.Scopes
	if f.Why == api.OK {
		s, f = scope.Resolve(p)
	}
	if f.Why != api.OK {
		at := -1
		pieces, _ := lexer.Scan(now[f.File].Text)
		for n, p := range pieces {
			if p.From <= f.At && f.At < p.To {
				at = n
			}
		}
		return []api.Clash{{Why: f.Why, At: api.Place{File: f.File, Token: at}}}
	}
	var out []api.Clash
	for _, at := range occurrences(w) {
		if w.Scopes().Bound(at) != s.Bound(at) || w.Scopes().Makes(at) != s.Makes(at) {
			if len(w.Checks().Members(at)) == 0 {
				out = append(out, api.Clash{Why: api.ErrBound, At: at})
			}
		}
	}
	return out
}

// TestModel: N4: programs by chance, any classes and names.
func TestModel(t *testing.T) {
	r := chance(4)
	whys := map[api.Errno]int{}
	for range 40 {
		w := opened(t, someFiles(r))
		decls := w.Scopes().Decls()
		for range 40 {
			var class []int
			for range 1 + r.IntN(2) {
				class = append(class, r.IntN(len(decls)))
			}
			if r.IntN(3) > 0 {
				class = ties.Class(w, class[0])
			}
			name := pick(r, append(slices.Clone(pool), "_", "main", "init", "int", "print", "v", "w", "z", "x", "p", "Fresh", decls[r.IntN(len(decls))].Name)...)
			got, e := plan.Foresee(w, class, name)
			if want := foreseen(w, class, name); e != api.OK || !slices.Equal(got, want) {
				t.Fatalf("N4: %v to %s: %v, %d, not %v: %.3000q", class, name, got, e, want, w.Program().Files())
			}
			if len(got) == 0 {
				whys[api.OK]++
			} else {
				whys[got[0].Why]++
			}
		}
	}
	for _, why := range []api.Errno{api.OK, api.ErrTwice, api.ErrSpecial, api.ErrNew, api.ErrUnknown, api.ErrBound, api.ErrMain} {
		if whys[why] < 2 {
			t.Errorf("few of %d: %v", why, whys)
		}
	}
}

// TestFresh: N7: a class that may be renamed, and a fresh name.
func TestFresh(t *testing.T) {
	r := chance(5)
	for range 6 {
		w := opened(t, someFiles(r))
		done := map[int]bool{}
		for _, here := range occurrences(w) {
			d, e := ties.Target(w, here)
			if e != api.OK || done[d] {
				continue
			}
			class := ties.Class(w, d)
			for _, c := range class {
				done[c] = true
			}
			for _, name := range []string{"Fresh", "é", strings.Repeat("n", api.MaxName)} {
				if got, e := plan.Foresee(w, class, name); e != api.OK || len(got) > 0 {
					t.Fatalf("N7: %v to %s: %v, %d: %.3000q", class, name, got, e, w.Program().Files())
				}
			}
		}
	}
}

// TestThereAndBack: N5, N6, N8.
func TestThereAndBack(t *testing.T) {
	r := chance(6)
	for range 40 {
		w := opened(t, someFiles(r))
		old, decls := w.Program().Files(), w.Scopes().Decls()
		for range 20 {
			a, b := ties.Class(w, r.IntN(len(decls))), ties.Class(w, r.IntN(len(decls)))
			here := both(t, w, a, b)
			name := pick(r, "_", "A", "Fresh", "é", "averylongnamethatisthereinnofile")
			lists, e := plan.Edits(w, here, name)
			now, e2 := plan.Files(old, lists)
			if e != api.OK || e2 != api.OK {
				t.Fatalf("N2: %d, %d", e, e2)
			}
			for i := range now {
				pieces(t, w, i, now[i], here, name)
				back, e := edits.Invert(old[i].Text, lists[i])
				if e != api.OK || len(back) != len(lists[i]) {
					t.Fatalf("N6: %d", e)
				}
				for _, x := range back {
					if x.Text != decls[a[0]].Name {
						t.Fatalf("N6: %s, not %s", x.Text, decls[a[0]].Name)
					}
				}
			}
			undone(t, w, now, here, name, decls[a[0]].Name)
		}
	}
}

// both are the places of a class; those of it and another together are those of both: N8.
func both(t *testing.T, w *xref.Whole, a, b []int) []api.Place {
	t.Helper()
	here, _ := plan.Places(w, a)
	there, _ := plan.Places(w, b)
	all, e := plan.Places(w, slices.Concat(a, b))
	for _, at := range all {
		if !slices.Contains(here, at) && !slices.Contains(there, at) {
			t.Fatalf("N8: %v", at)
		}
	}
	for _, at := range slices.Concat(here, there) {
		if !slices.Contains(all, at) {
			t.Fatalf("N8: %v", at)
		}
	}
	if e != api.OK || !slices.IsSortedFunc(all, func(a, b api.Place) int { return slices.Compare([]int{a.File, a.Token}, []int{b.File, b.Token}) }) {
		t.Fatalf("N1: %v, %d", all, e)
	}
	return here
}

// pieces holds a new file's pieces against the old one's: N5.
func pieces(t *testing.T, w *xref.Whole, file int, now api.File, places []api.Place, name string) {
	t.Helper()
	old, text := w.Program().Tokens(file), w.Program().Files()[file].Text
	l, f := lexer.Scan(now.Text)
	if f != (api.Fault{}) || len(l) != len(old) {
		t.Fatalf("N5: %v: %d, not %d pieces", f, len(l), len(old))
	}
	for n, p := range l {
		want := text[old[n].From:old[n].To]
		if slices.Contains(places, api.Place{File: file, Token: n}) {
			want = name
		}
		if p.Kind != old[n].Kind || now.Text[p.From:p.To] != want {
			t.Fatalf("N5: piece %d: %q, not %q", n, now.Text[p.From:p.To], want)
		}
	}
}

// undone puts the old name back where the new files are a program without faults: N6.
func undone(t *testing.T, w *xref.Whole, now []api.File, places []api.Place, name, old string) {
	t.Helper()
	v, f := xref.Open(now)
	if f.Why != api.OK || name == "_" {
		return
	}
	lists, e := plan.Edits(v, places, old)
	back, e2 := plan.Files(now, lists)
	if e != api.OK || e2 != api.OK || !slices.Equal(back, w.Program().Files()) {
		t.Fatalf("N6: %d, %d: %.2000q", e, e2, back)
	}
}

// TestLimits: as many pieces as may be, all of one name.
func TestLimits(t *testing.T) {
	head, stmt := "package main;func main(){var v int;", "print(v);"
	text := head + strings.Repeat(stmt, (api.MaxPieces-19)/5) + "}"
	w := opened(t, files("a: "+text))
	class := []int{decl(t, w, "v", 1)}
	places, _ := plan.Places(w, class)
	lists, e := plan.Edits(w, places, strings.Repeat("w", api.MaxName))
	now, e2 := plan.Files(w.Program().Files(), lists)
	if e != api.OK || e2 != api.OK || len(lists[0]) != strings.Count(text, stmt)+1 || now[0].Text != strings.NewReplacer("var v", "var "+strings.Repeat("w", api.MaxName), "(v)", "("+strings.Repeat("w", api.MaxName)+")").Replace(text) {
		t.Errorf("N3: %d, %d", e, e2)
	}
	if got, e := plan.Foresee(w, class, strings.Repeat("w", api.MaxName)); e != api.OK || len(got) > 0 {
		t.Errorf("N4: %v, %d", got, e)
	}
	if got, e := plan.Foresee(w, class, "print"); e != api.OK || len(got) != strings.Count(text, stmt) {
		t.Errorf("N4: %d clashes, %d", len(got), e)
	}
	lists, _ = plan.Edits(w, places, "v")
	if now, e := plan.Files(w.Program().Files(), lists); e != api.OK || now[0].Text != text {
		t.Errorf("N3: %d", e)
	}
}

// TestTogether: P5: several that ask at once.
func TestTogether(t *testing.T) {
	w := opened(t, someFiles(chance(7)))
	want, _ := plan.Foresee(w, []int{0, 1, 2}, "A")
	done := make(chan bool)
	for range 8 {
		go func() {
			got, _ := plan.Foresee(w, []int{2, 1, 0, 1}, "A")
			done <- slices.Equal(got, want)
		}()
	}
	for range 8 {
		if !<-done {
			t.Error("P5: other clashes")
		}
	}
}
