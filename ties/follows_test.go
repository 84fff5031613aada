package ties_test

import (
	"fmt"
	"slices"
	"strings"
	"testing"

	"moniker/api"
	"moniker/ties"
	"moniker/xref"
)

// TestModel: T1 to T3: programs by chance, held against the words of 0.11.
func TestModel(t *testing.T) {
	r := chance(1)
	sizes, lengths := map[int]int{}, map[int]int{}
	for i := range 700 {
		w := opened(t, someFiles(r))
		if i >= 200 {
			w = opened(t, someFaces(r))
		}
		m := newModel(w)
		if got, want := ties.Pairs(w), m.pairs(); !slices.Equal(got, want) {
			t.Fatalf("T1: %s, not %s: %.3000q", pairs(w, got), pairs(w, want), w.Program().Files())
		}
		classes := ties.Classes(w)
		if len(classes) != len(m.decls) {
			t.Fatalf("T2: %d classes of %d declarations", len(classes), len(m.decls))
		}
		for d := range m.decls {
			class := m.class(d)
			if got := ties.Class(w, d); !slices.Equal(got, class) || classes[d] != class[0] {
				t.Fatalf("T2: %s: %s, not %s: %.3000q", told(w)[d], row(w, got), row(w, class), w.Program().Files())
			}
			sizes[len(class)]++
			for _, to := range class {
				got, want := ties.Why(w, d, to), m.why(d, to)
				if !slices.Equal(got, want) {
					t.Fatalf("T3: %s, not %s: %.3000q", row(w, got), row(w, want), w.Program().Files())
				}
				lengths[len(want)]++
			}
			if to := r.IntN(len(m.decls)); !slices.Contains(class, to) && len(ties.Why(w, d, to)) > 0 {
				t.Fatalf("T3: %s leads to %s", told(w)[d], told(w)[to])
			}
		}
	}
	for n := range 5 {
		if sizes[n+1] < 50 || lengths[n+1] < 5 {
			t.Errorf("few classes or rows of %d: %v, %v", n+1, sizes, lengths)
		}
	}
}

// TestOneClass: T5: whatever an occurrence binds to is of one class.
func TestOneClass(t *testing.T) {
	r := chance(2)
	several := 0
	for range 100 {
		w := opened(t, someFiles(r))
		classes := ties.Classes(w)
		for _, here := range occurrences(w) {
			all := w.Decls(here)
			if len(all) > 1 {
				several++
			}
			for _, d := range all {
				if classes[d] != classes[all[0]] {
					t.Fatalf("T5: %v: %s: %.3000q", here, row(w, all), w.Program().Files())
				}
			}
			if d, e := ties.Target(w, here); e == api.OK && d != all[0] || e != api.OK && (d != -1 || e != api.ErrTarget) {
				t.Fatalf("T4: %v: %d, %d of %v", here, d, e, all)
			}
		}
	}
	if several < 100 {
		t.Errorf("only %d with several", several)
	}
}

// TestClass: T6, P13: a class is closed and the least such set; it has one name, and kinds that go together.
func TestClass(t *testing.T) {
	r := chance(3)
	for range 100 {
		w := opened(t, someFiles(r))
		decls, list := w.Scopes().Decls(), ties.Pairs(w)
		for d := range decls {
			class := ties.Class(w, d)
			if !slices.Contains(class, d) || !slices.IsSorted(class) || len(slices.Compact(slices.Clone(class))) != len(class) {
				t.Fatalf("T2: %d: %v", d, class)
			}
			for _, p := range list {
				if slices.Contains(class, p[0]) != slices.Contains(class, p[1]) {
					t.Fatalf("T6: %s: %v is not closed by %v", told(w)[d], class, p)
				}
			}
			for _, c := range class {
				if decls[c].Name != decls[d].Name || len(class) > 1 && !isTied(decls[c].Kind) {
					t.Fatalf("T6: %s: %s", told(w)[d], row(w, class))
				}
				// What leads there by ties lies in every closed set.
				way := ties.Why(w, d, c)
				for i := range way[1:] {
					if _, ok := slices.BinarySearchFunc(list, [2]int{min(way[i], way[i+1]), max(way[i], way[i+1])}, func(a, b [2]int) int { return slices.Compare(a[:], b[:]) }); !ok {
						t.Fatalf("T3: %s: no tie at %d", row(w, way), i)
					}
				}
				if way[0] != d || way[len(way)-1] != c || !slices.Equal(ties.Class(w, c), class) {
					t.Fatalf("T3: %s from %s to %s", row(w, way), told(w)[d], told(w)[c])
				}
			}
		}
	}
}

func isTied(kind api.DeclKind) bool {
	return slices.Contains([]api.DeclKind{api.DeclType, api.DeclEmbed, api.DeclField, api.DeclMethod, api.DeclShape}, kind)
}

// story is all that the package tells of a program.
type story struct {
	pairs   [][2]int
	classes []int
	class   [][]int
	why     [][]int
	target  []int
}

func storyOf(w *xref.Whole) story {
	s := story{pairs: ties.Pairs(w), classes: ties.Classes(w)}
	for d := range w.Scopes().Decls() {
		class := ties.Class(w, d)
		s.class = append(s.class, class)
		for _, to := range class {
			s.why = append(s.why, ties.Why(w, d, to))
		}
	}
	for _, here := range occurrences(w) {
		d, e := ties.Target(w, here)
		s.target = append(s.target, d, int(e))
	}
	return s
}

func (s story) same(o story) bool {
	return slices.Equal(s.pairs, o.pairs) && slices.Equal(s.classes, o.classes) && slices.EqualFunc(s.class, o.class, slices.Equal[[]int]) && slices.EqualFunc(s.why, o.why, slices.Equal[[]int]) && slices.Equal(s.target, o.target)
}

// TestSpellings: T7: each class gets a name of its own, and blanks and comments are others: the same is told.
func TestSpellings(t *testing.T) {
	r := chance(4)
	for range 60 {
		w := opened(t, someFiles(r))
		before := storyOf(w)
		decls := w.Scopes().Decls()
		v := opened(t, rewritten(w, func(here api.Place, p api.Token, old string) string {
			if p.Kind == api.TokBlanks && !strings.Contains(old, "\n") {
				return pick(r, " ", "  ", " /* A */ ")
			}
			if d, e := ties.Target(w, here); e == api.OK {
				return fmt.Sprint(decls[d].Name, "_", before.classes[d])
			}
			return old
		}))
		if !storyOf(v).same(before) {
			t.Fatalf("T7: %.3000q, %.3000q", w.Program().Files(), v.Program().Files())
		}
	}
}

// TestFresh: 0.12, 13.12: a class that is given a fresh name: bindings, what is satisfied and classes are the same.
func TestFresh(t *testing.T) {
	r := chance(5)
	for range 20 {
		w := opened(t, someFiles(r))
		before := storyOf(w)
		for d, decl := range w.Scopes().Decls() {
			if before.classes[d] != d || decl.At.File < 0 || !isTied(decl.Kind) {
				continue
			}
			class := before.class[d]
			v := opened(t, rewritten(w, func(here api.Place, _ api.Token, old string) string {
				if slices.ContainsFunc(w.Decls(here), func(b int) bool { return slices.Contains(class, b) }) {
					return "Fresh"
				}
				return old
			}))
			if why, place := xref.Alike(w, v); why != api.OK || len(v.Satisfied()) != len(w.Satisfied()) || !storyOf(v).same(before) {
				t.Fatalf("0.12: %s: %d at %v: %.3000q", row(w, class), why, place, v.Program().Files())
			}
		}
	}
}
