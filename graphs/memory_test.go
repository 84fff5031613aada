package graphs_test

import (
	"slices"
	"sync"
	"testing"

	"moniker/api"
	"moniker/graphs"
)

const mixed = "0>1 1>0 2>0 3>4 5>3 5>2 6>6 4>7 5>2"

func askAll(n int, list [][2]int) {
	graphs.Order(n, list)
	graphs.Reach(n, list, 0)
	graphs.Parts(n, list)
	graphs.Classes(n, list)
}

// TestNothingChanged: what is handed in stands as it stood, its spare room too (6.5).
func TestNothingChanged(t *testing.T) {
	for _, s := range []string{mixed, "5>4 4>3 5>3 1>0"} {
		list := slices.Grow(pairs(s), 20)
		for i := len(list); i < cap(list); i++ {
			list[:cap(list)][i] = [2]int{-i, i}
		}
		was := slices.Clone(list[:cap(list)])
		askAll(8, list)
		if !slices.Equal(list[:cap(list)], was) {
			t.Errorf("6.5: %s was changed", s)
		}
	}
}

// spoil writes over a list, its spare room too.
func spoil(l []int) {
	for i := range l[:cap(l)] {
		l[:cap(l)][i] = -99
	}
}

// TestNewMemory: what is answered shares nothing with another answer, or with another list of the same (6.5).
func TestNewMemory(t *testing.T) {
	again := func(what string, ask func() []int) {
		t.Helper()
		first := ask()
		kept := slices.Clone(first)
		spoil(first)
		if second := ask(); len(kept) == 0 || !slices.Equal(second, kept) {
			t.Errorf("6.5: %s: %v, not %v", what, second, kept)
		}
	}
	again("Order", func() []int { l, _, _ := graphs.Order(4, pairs("0>2 1>0 3>2")); return l })
	again("Order's cycle", func() []int { _, l, _ := graphs.Order(8, pairs(mixed)); return l })
	again("Reach", func() []int { l, _ := graphs.Reach(8, pairs(mixed), 5); return l })
	again("Classes", func() []int { l, _ := graphs.Classes(8, pairs(mixed)); return l })
	parts, _ := graphs.Parts(8, pairs(mixed))
	want := wordParts(8, pairs(mixed))
	for i, part := range parts {
		if !slices.Equal(part, want[i]) {
			t.Errorf("6.5: part %d is %v, not %v", i, part, want[i])
		}
		spoil(part)
	}
	if l, _ := graphs.Parts(8, pairs(mixed)); !sameLists(l, want) {
		t.Errorf("6.5: %v, not %v", l, want)
	}
}

// TestNilAndEmpty: nil and empty lists are alike (P3).
func TestNilAndEmpty(t *testing.T) {
	for _, list := range [][][2]int{nil, {}} {
		l, cycle, e := graphs.Order(2, list)
		if !slices.Equal(l, []int{0, 1}) || len(cycle) != 0 || e != api.OK {
			t.Error("P3: Order", l, cycle, e)
		}
		if l, e := graphs.Reach(2, list, 1); !slices.Equal(l, []int{1}) || e != api.OK {
			t.Error("P3: Reach", l, e)
		}
		if l, e := graphs.Parts(2, list); !sameLists(l, [][]int{{0}, {1}}) || e != api.OK {
			t.Error("P3: Parts", l, e)
		}
		if l, e := graphs.Classes(2, list); !slices.Equal(l, []int{0, 1}) || e != api.OK {
			t.Error("P3: Classes", l, e)
		}
	}
}

// TestSameAnswers: an answer hangs on the arguments alone, whoever asks at the same time (P5).
func TestSameAnswers(t *testing.T) {
	list := pairs(mixed)
	_, want, _ := graphs.Order(8, list)
	parts, _ := graphs.Parts(8, list)
	var wait sync.WaitGroup
	for range 4 {
		wait.Go(func() {
			for range 200 {
				askAll(8, list)
				if _, l, _ := graphs.Order(8, list); !slices.Equal(l, want) {
					t.Error("P5: another cycle", l)
				}
				if l, _ := graphs.Parts(8, list); !sameLists(l, parts) {
					t.Error("P5: other parts", l)
				}
			}
		})
	}
	wait.Wait()
}
