package graphs_test

import (
	"slices"
	"testing"

	"moniker/api"
	"moniker/graphs"
)

func sameLists(a, b [][]int) bool {
	return slices.EqualFunc(a, b, func(x, y []int) bool { return slices.Equal(x, y) })
}

func TestOrder(t *testing.T) {
	for _, c := range []struct {
		n           int
		edges       string
		want, cycle []int
	}{
		{4, "0>2 1>0 3>2", []int{2, 0, 1, 3}, nil}, {3, "", []int{0, 1, 2}, nil}, {0, "", nil, nil}, {3, "0>2", []int{1, 2, 0}, nil}, {1, "", []int{0}, nil},
		{5, "4>3 3>4 1>4 0>1", nil, []int{3, 4}}, {3, "2>2 0>2", nil, []int{2}}, {6, "1>2 2>5 5>1 1>4 4>1", nil, []int{1, 4}}, {6, "1>5 5>1 1>3 3>1", nil, []int{1, 3}}, {5, "1>3 3>2 2>1 1>2 2>4 4>1", nil, []int{1, 2}},
		{1, "0>0", nil, []int{0}}, {2, "0>1 1>0 0>0", nil, []int{0}}, {2, "0>1 1>0 1>1", nil, []int{0, 1}}, {3, "0>1 1>1 2>1", nil, []int{1}},
		{4, "1>0 1>0 1>0 3>1 3>1", []int{0, 1, 2, 3}, nil}, {3, "2>1 1>2 2>1", nil, []int{1, 2}},
		{6, "0>4 4>5 5>0 0>1 1>2 2>3 3>0", nil, []int{0, 4, 5}}, {7, "0>5 5>2 2>0 0>4 4>6 6>0 4>3 3>0", nil, []int{0, 4, 3}}, {5, "0>1 1>2 2>0 0>2 2>1 3>0 4>4", nil, []int{0, 2}},
	} {
		l, cycle, e := graphs.Order(c.n, pairs(c.edges))
		want := api.OK
		if c.cycle != nil {
			want = api.ErrCycle
		}
		if !slices.Equal(l, c.want) || !slices.Equal(cycle, c.cycle) || e != want {
			t.Errorf("6.1: Order(%d, %s) = %v, %v, %d", c.n, c.edges, l, cycle, e)
		}
	}
}

func TestReach(t *testing.T) {
	for _, c := range []struct {
		edges string
		from  int
		want  []int
	}{
		{"0>1 1>2 2>0 3>0", 1, []int{0, 1, 2}}, {"0>1 1>2 2>0 3>0", 4, []int{4}}, {"0>1 1>2 2>0 3>0", 3, []int{0, 1, 2, 3}},
		{"", 0, []int{0}}, {"2>2", 2, []int{2}}, {"4>3 3>2 2>1 1>0", 4, []int{0, 1, 2, 3, 4}}, {"4>3 3>2 2>1 1>0", 0, []int{0}}, {"0>4 0>4 4>1", 0, []int{0, 1, 4}},
	} {
		if l, e := graphs.Reach(5, pairs(c.edges), c.from); !slices.Equal(l, c.want) || e != api.OK {
			t.Errorf("6.2: Reach(5, %s, %d) = %v, %d", c.edges, c.from, l, e)
		}
	}
}

func TestParts(t *testing.T) {
	for _, c := range []struct {
		n     int
		edges string
		want  [][]int
	}{
		{5, "0>1 1>0 2>0 3>4", [][]int{{0, 1}, {2}, {4}, {3}}}, {3, "2>2", [][]int{{0}, {1}, {2}}}, {4, "0>3 3>2 2>3", [][]int{{1}, {2, 3}, {0}}},
		{0, "", nil}, {1, "0>0", [][]int{{0}}}, {3, "2>1 1>0 0>2", [][]int{{0, 1, 2}}}, {5, "0>4 4>0 1>3 3>1 0>1 2>0", [][]int{{1, 3}, {0, 4}, {2}}}, {4, "0>3 0>3 3>0", [][]int{{0, 3}, {1}, {2}}},
	} {
		if got, e := graphs.Parts(c.n, pairs(c.edges)); e != api.OK || !sameLists(got, c.want) {
			t.Errorf("6.3: Parts(%d, %s) = %v, %d", c.n, c.edges, got, e)
		}
	}
}

func TestClasses(t *testing.T) {
	for _, c := range []struct {
		n    int
		ties string
		want []int
	}{
		{6, "1-4 4-2 5-5", []int{0, 1, 1, 3, 1, 5}}, {3, "", []int{0, 1, 2}}, {4, "3-2 1-0 2-1", []int{0, 0, 0, 0}}, {0, "", nil}, {1, "0-0", []int{0}}, {5, "4-3 4-3 3-4", []int{0, 1, 2, 3, 3}}, {5, "4-0", []int{0, 1, 2, 3, 0}},
	} {
		if got, e := graphs.Classes(c.n, pairs(c.ties)); e != api.OK || !slices.Equal(got, c.want) {
			t.Errorf("6.4: Classes(%d, %s) = %v, %d", c.n, c.ties, got, e)
		}
	}
}

// refused asks that no call takes so many things, such pairs.
func refused(t *testing.T, n int, list [][2]int) {
	t.Helper()
	if l, cycle, e := graphs.Order(n, list); e != api.ErrArg || len(l) != 0 || len(cycle) != 0 {
		t.Errorf("6.1: Order(%d, %v) = %v, %v, %d", n, list, l, cycle, e)
	}
	if l, e := graphs.Reach(n, list, 0); e != api.ErrArg || len(l) != 0 {
		t.Errorf("6.2: Reach(%d, %v, 0) = %v, %d", n, list, l, e)
	}
	if l, e := graphs.Parts(n, list); e != api.ErrArg || len(l) != 0 {
		t.Errorf("6.3: Parts(%d, %v) = %v, %d", n, list, l, e)
	}
	if l, e := graphs.Classes(n, list); e != api.ErrArg || len(l) != 0 {
		t.Errorf("6.4: Classes(%d, %v) = %v, %d", n, list, l, e)
	}
}

func TestRefused(t *testing.T) {
	const great = int(^uint(0) >> 1)
	for _, n := range []int{-1, -great - 1, most + 1, great, most + 1<<32, 1 << 32} {
		refused(t, n, nil)
		refused(t, n, [][2]int{{0, 0}})
	}
	for _, p := range [][2]int{{0, 2}, {2, 0}, {-1, 0}, {0, -1}, {2, 2}, {great, 0}, {0, -great - 1}, {1 << 32, 0}, {0, 1 << 32}} {
		refused(t, 2, [][2]int{p})
		refused(t, 2, [][2]int{{0, 1}, {0, 0}, p, {1, 0}})
	}
	refused(t, 0, [][2]int{{0, 0}})
	for _, from := range []int{-1, 3, great, -great - 1, 1 << 32} {
		if l, e := graphs.Reach(3, pairs("0>1 1>2"), from); e != api.ErrArg || len(l) != 0 {
			t.Errorf("6.2: Reach from %d = %v, %d", from, l, e)
		}
	}
	if l, e := graphs.Reach(0, nil, 0); e != api.ErrArg || len(l) != 0 {
		t.Errorf("6.2: Reach(0, none, 0) = %v, %d", l, e)
	}
}

// way are edges from 0 to 1, from 1 to 2, and so on.
func way(n int) [][2]int {
	var out [][2]int
	for x := range n - 1 {
		out = append(out, [2]int{x, x + 1})
	}
	return out
}

func counted(from, to, step int) []int {
	var out []int
	for x := from; x != to; x += step {
		out = append(out, x)
	}
	return out
}

// TestLong: ways as long as there are things, at the limit.
func TestLong(t *testing.T) {
	long := way(most)
	if l, cycle, e := graphs.Order(most, long); !slices.Equal(l, counted(most-1, -1, -1)) || cycle != nil || e != api.OK {
		t.Error("6.1: a long way")
	}
	if l, e := graphs.Reach(most, long, 7); !slices.Equal(l, counted(7, most, 1)) || e != api.OK {
		t.Error("6.2: a long way")
	}
	if l, e := graphs.Parts(most, long); len(l) != most || l[0][0] != most-1 || l[most-1][0] != 0 || e != api.OK {
		t.Error("6.3: a long way")
	}
	if l, e := graphs.Classes(most, long); !slices.Equal(l, make([]int, most)) || e != api.OK {
		t.Error("6.4: a long way")
	}
	round := append(long, [2]int{most - 1, 0})
	if l, cycle, e := graphs.Order(most, round); len(l) != 0 || !slices.Equal(cycle, counted(0, most, 1)) || e != api.ErrCycle {
		t.Error("6.1: a long cycle")
	}
	if l, e := graphs.Parts(most, round); len(l) != 1 || !slices.Equal(l[0], counted(0, most, 1)) || e != api.OK {
		t.Error("6.3: a long cycle")
	}
	if l, cycle, e := graphs.Order(most, nil); !slices.Equal(l, counted(0, most, 1)) || cycle != nil || e != api.OK {
		t.Error("6.1: no edges")
	}
}

// TestMany: many edges, most of them between the same two.
func TestMany(t *testing.T) {
	var many [][2]int
	for i := range 1 << 20 {
		many = append(many, [2]int{1 + i%3, 0}, [2]int{3, 1})
	}
	if l, _, e := graphs.Order(4, many); !slices.Equal(l, []int{0, 1, 2, 3}) || e != api.OK {
		t.Errorf("6.1: %v, %d", l, e)
	}
	if l, e := graphs.Reach(4, many, 3); !slices.Equal(l, []int{0, 1, 3}) || e != api.OK {
		t.Errorf("6.2: %v, %d", l, e)
	}
	if l, e := graphs.Classes(5, many); !slices.Equal(l, []int{0, 0, 0, 0, 4}) || e != api.OK {
		t.Errorf("6.4: %v, %d", l, e)
	}
	if l, cycle, e := graphs.Order(4, append(many, [2]int{0, 2})); len(l) != 0 || !slices.Equal(cycle, []int{0, 2}) || e != api.ErrCycle {
		t.Errorf("6.1: %v, %v, %d", l, cycle, e)
	}
}
