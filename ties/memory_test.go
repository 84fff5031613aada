package ties_test

import (
	"fmt"
	"math"
	"slices"
	"strings"
	"sync"
	"testing"

	"moniker/api"
	"moniker/ties"
)

// TestWrong: P1, P2, P7: nil, and numbers and places that are none.
func TestWrong(t *testing.T) {
	w := opened(t, mainly(example))
	count := len(w.Scopes().Decls())
	if len(ties.Pairs(nil)) > 0 || len(ties.Classes(nil)) > 0 || len(ties.Class(nil, 0)) > 0 || len(ties.Why(nil, 0, 0)) > 0 {
		t.Error("P1: of nil")
	}
	for _, d := range []int{-1, count, count + 1, math.MinInt, math.MaxInt, math.MinInt32, math.MaxInt32} {
		if got := ties.Class(w, d); len(got) > 0 {
			t.Errorf("T2: %d: %v", d, got)
		}
		for _, other := range []int{d, 0, count - 1, -1, count} {
			if a, b := ties.Why(w, d, other), ties.Why(w, other, d); len(a) > 0 || len(b) > 0 {
				t.Errorf("T3: %d, %d: %v, %v", d, other, a, b)
			}
		}
		for _, place := range []api.Place{{File: d}, {Token: d}, {File: d, Token: d}, {File: d, Token: 2}} {
			if place.File == 0 && (d == count || d == count+1) {
				continue // a piece may have that number
			}
			if got, e := ties.Target(w, place); got != -1 || e != api.ErrNowhere {
				t.Errorf("T4: %v: %d, %d", place, got, e)
			}
		}
	}
	for _, d := range []int{0, count - 1} {
		if got := ties.Class(w, d); !slices.Equal(got, []int{d}) || !slices.Equal(ties.Why(w, d, d), got) {
			t.Errorf("T2: %d: %v", d, got)
		}
	}
}

// TestNewMemory: P4: answers that are written over change nothing.
func TestNewMemory(t *testing.T) {
	r := chance(6)
	for range 20 {
		w := opened(t, someFiles(r))
		before := storyOf(w)
		for range 2 {
			s := storyOf(w)
			if !s.same(before) {
				t.Fatal("P5: other answers when asked again")
			}
			spoil(s.pairs, [2]int{-7, -7})
			for _, l := range append(append(s.class, s.why...), s.classes, s.target) {
				spoil(l, -7)
			}
		}
		if !storyOf(opened(t, w.Program().Files())).same(before) {
			t.Fatal("P5: other answers of the same files")
		}
	}
}

// TestTogether: P5: several that ask at once, and a Table that was asked before.
func TestTogether(t *testing.T) {
	given := someFiles(chance(7))
	want := storyOf(opened(t, given))
	w := opened(t, given)
	for id := range 40 {
		w.Table().Pointer(w.Table().Slice(id))
	}
	var all sync.WaitGroup
	for range 8 {
		all.Go(func() {
			if !storyOf(w).same(want) {
				t.Error("P5: other answers")
			}
		})
	}
	all.Wait()
}

// TestMany: classes of programs that have very many ties are told in fair time.
func TestMany(t *testing.T) {
	for name, line := range map[string]func(i int) string{
		"alike":  func(i int) string { return fmt.Sprintf("type I%d interface { m() }", i) },
		"nested": func(i int) string { return fmt.Sprintf("type I%d interface { I%d; m(); x%d() }", i, max(i-1, 0), i) },
		"structs": func(i int) string {
			return fmt.Sprintf("type I%d struct { *I%d }\nfunc (i I%d) m() { }", i, max(i-1, 0), i)
		},
		"both": func(i int) string {
			return fmt.Sprintf("type I%d interface { m() }\ntype T%d int\nfunc (t T%d) m() { }", i, i, i)
		},
	} {
		const n = 300
		lines := []string{"type I0 interface { m() }"}
		if name == "structs" {
			lines = []string{"type I0 struct { m int }"}
		}
		for i := 1; i < n; i++ {
			lines = append(lines, line(i))
		}
		w := opened(t, mainly(strings.Join(lines, "\n")))
		first := number(t, w, "I0.m")
		size := n
		if name == "both" {
			size = 2*n - 1
		}
		class := ties.Class(w, first)
		if len(class) != size || class[0] != first {
			t.Errorf("T2: %s: %d of %d", name, len(class), size)
		}
		classes := ties.Classes(w)
		for _, d := range class {
			if classes[d] != first {
				t.Fatalf("T2: %s: %d is in the class of %d", name, d, classes[d])
			}
		}
		if got := len(ties.Pairs(w)); name == "alike" && got != n*(n-1)/2 || name == "nested" && got != n*(n-1)/2 || name == "both" && got != n*(n-1)/2+n*(n-1) || name == "structs" && got != n*(n-1)/2+n-1 {
			t.Errorf("T1: %s: %d", name, got)
		}
		if got := ties.Why(w, first, class[len(class)-1]); len(got) != 2 {
			t.Errorf("T3: %s: %s", name, row(w, got))
		}
	}
}
