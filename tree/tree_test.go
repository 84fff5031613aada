package tree_test

import (
	"slices"
	"testing"

	"moniker/api"
	"moniker/tree"
)

const most = int(^uint(0) >> 1)

func TestValid(t *testing.T) {
	_, T := small()
	size := func(n, size int) api.Tree { return with(n, func(x *api.Node) { x.Size = size }) }
	run := func(n, first, end int) api.Tree { return with(n, func(x *api.Node) { x.First, x.End = first, end }) }
	for i, c := range []struct {
		t      api.Tree
		pieces int
		want   bool
	}{
		{T, 4, true}, {T, 5, true}, {T, most, true}, {T, 3, false}, {T, 0, false}, {T, -1, false}, {api.Tree{}, 4, false}, {api.Tree{}, 0, false},
		{size(1, 2), 4, true}, {size(1, 3), 4, true}, {size(1, 0), 4, false}, {size(1, 4), 4, false}, {size(1, -1), 4, false}, {size(1, most), 4, false}, {size(0, 3), 4, false}, {size(0, 5), 4, false}, {size(0, 1), 4, false}, {size(3, 2), 4, false},
		{run(2, 3, 4), 4, true}, {run(2, 2, 4), 4, false}, {run(2, 0, 0), 4, true}, {run(2, 3, 5), 5, false}, {run(2, 5, 5), 5, true}, {run(2, 5, 5), 4, false}, {run(1, 3, 2), 4, false}, {run(1, -1, 3), 4, false}, {run(1, 0, 4), 4, true}, {run(2, 1, 2), 4, false},
		{run(0, 1, 4), 4, true}, {run(0, 3, 4), 4, false}, {run(0, 0, 2), 4, false}, {run(0, 2, 3), 4, true},
		{with(3, func(x *api.Node) { x.Kind = api.NodePair }), 4, true}, {with(3, func(x *api.Node) { x.Kind = api.NodeCount }), 4, false}, {with(0, func(x *api.Node) { x.Kind = 255 }), 4, false},
		{api.Tree{Nodes: []api.Node{{Size: 1}}}, 0, true}, {api.Tree{Nodes: []api.Node{{Size: 2, First: 1, End: 1}, {Size: 1}}}, 1, false},
	} {
		if got := tree.Valid(c.t, c.pieces); got != c.want {
			t.Errorf("4.1: %d: Valid(%v, %d) = %v", i, c.t, c.pieces, got)
		}
	}
}

func TestKids(t *testing.T) {
	_, T := small()
	for _, c := range []struct {
		t    api.Tree
		n    int
		want []int
	}{
		{T, 0, []int{1, 2, 3}}, {T, 1, nil}, {T, 4, nil}, {T, -1, nil}, {T, most, nil}, {api.Tree{}, 0, nil},
		{with(1, func(x *api.Node) { x.Size = 2 }), 0, []int{1, 3}}, {with(1, func(x *api.Node) { x.Size = 2 }), 1, []int{2}}, {with(1, func(x *api.Node) { x.Size = 0 }), 0, nil}, {with(1, func(x *api.Node) { x.Size = 4 }), 0, nil}, {with(1, func(x *api.Node) { x.Size = 4 }), 1, nil}, {with(3, func(x *api.Node) { x.Size = most }), 0, nil}, {with(0, func(x *api.Node) { x.Size = most }), 0, nil}, {with(0, func(x *api.Node) { x.Size = -most }), 0, nil}, {with(0, func(x *api.Node) { x.Size = 2 }), 0, []int{1}},
	} {
		got := tree.Kids(c.t, c.n)
		if !slices.Equal(got, c.want) {
			t.Errorf("4.2: Kids(%v, %d) = %v", c.t, c.n, got)
		}
		for i := -2; i < 6; i++ {
			want := -1
			if i >= 0 && i < len(c.want) {
				want = c.want[i]
			}
			if got := tree.Kid(c.t, c.n, i); got != want {
				t.Errorf("4.2: Kid(%v, %d, %d) = %d", c.t, c.n, i, got)
			}
		}
	}
	if tree.Kid(T, 0, most) != -1 || tree.Kid(T, 0, -most-1) != -1 {
		t.Error("4.2: a kid that is none")
	}
}

func TestUp(t *testing.T) {
	_, T := small()
	deep := api.Tree{Nodes: []api.Node{{Size: 4}, {Size: 3}, {Size: 2}, {Size: 1}}}
	two := api.Tree{Nodes: []api.Node{{Size: 3}, {Size: 2}, {Size: 1}}} // 2 is 1's alone
	odd := api.Tree{Nodes: []api.Node{{Size: 3}, {Size: 1}, {Size: 1}}}
	odd.Nodes = append([]api.Node{{Size: 2}}, odd.Nodes...) // the first ends within the second
	for _, c := range []struct {
		t       api.Tree
		n, want int
	}{
		{T, 3, 0}, {T, 1, 0}, {T, 0, -1}, {T, 4, -1}, {T, -1, -1}, {T, most, -1}, {T, -most, -1}, {api.Tree{}, 0, -1},
		{deep, 3, 2}, {deep, 2, 1}, {deep, 1, 0}, {two, 2, 1}, {two, 1, 0}, {odd, 1, -1}, {odd, 2, 1}, {odd, 3, 1},
	} {
		if got := tree.Up(c.t, c.n); got != c.want {
			t.Errorf("4.3: Up(%v, %d) = %d, not %d", c.t, c.n, got, c.want)
		}
	}
}

func TestWalk(t *testing.T) {
	_, T := small()
	at := func(all ...int) func(int) bool { return func(n int) bool { return slices.Contains(all, n) } }
	sizes := func(all ...int) api.Tree {
		var t api.Tree
		for _, s := range all {
			t.Nodes = append(t.Nodes, api.Node{Size: s})
		}
		return t
	}
	for _, c := range []struct {
		t    api.Tree
		n    int
		skip func(int) bool
		want []int
	}{
		{T, 0, nil, []int{0, 1, 2, 3}}, {T, 0, at(), []int{0, 1, 2, 3}}, {T, 0, at(0), []int{0}}, {T, 2, nil, []int{2}}, {T, 4, nil, nil}, {T, -1, nil, nil}, {T, most, nil, nil}, {api.Tree{}, 0, nil, nil},
		{sizes(6, 3, 1, 1, 2, 1), 0, at(1), []int{0, 1, 4, 5}}, {sizes(6, 3, 1, 1, 2, 1), 0, at(1, 4), []int{0, 1, 4}}, {sizes(6, 3, 1, 1, 2, 1), 1, at(2), []int{1, 2, 3}}, {sizes(6, 3, 1, 1, 2, 1), 1, nil, []int{1, 2, 3}},
		{sizes(0, 1), 0, nil, nil}, {sizes(3, 1), 0, nil, nil}, {sizes(-1), 0, nil, nil}, {sizes(most, 1), 0, nil, nil}, {sizes(1, most), 1, nil, nil},
		{sizes(4, 0, -1, most), 0, nil, []int{0, 1, 2, 3}}, {sizes(4, 0, 1, 1), 0, at(1), []int{0, 1}}, {sizes(4, 1, -5, 1), 0, at(1, 2), []int{0, 1, 2}}, {sizes(4, most, 1, 1), 0, at(1), []int{0, 1}}, {sizes(4, 2, 1, 1), 0, at(1), []int{0, 1, 3}}, {sizes(2, 1, 1), 0, nil, []int{0, 1}},
	} {
		if got := slices.Collect(tree.Walk(c.t, c.n, c.skip)); !slices.Equal(got, c.want) {
			t.Errorf("4.4: Walk(%v, %d) gives %v, not %v", c.t, c.n, got, c.want)
		}
	}
}

// TestWalkAgain: a walk may be left, gone again, gone within itself, and looks at the list as it is then (4.4).
func TestWalkAgain(t *testing.T) {
	_, T := small()
	walk := tree.Walk(T, 0, nil)
	for n := range walk {
		if n == 1 {
			break
		}
	}
	var all []int
	for n := range walk {
		for m := range walk {
			if m > n {
				break
			}
			all = append(all, 10*n+m)
		}
	}
	if !slices.Equal(all, []int{0, 10, 11, 20, 21, 22, 30, 31, 32, 33}) {
		t.Errorf("4.4: %v", all)
	}
	T.Nodes[0].Size = 2
	if got := slices.Collect(walk); !slices.Equal(got, []int{0, 1}) {
		t.Errorf("4.4: the list as it was: %v", got)
	}
	T.Nodes[0].Size = 9
	if got := slices.Collect(walk); len(got) != 0 {
		t.Errorf("4.4: the list as it was: %v", got)
	}
	T.Nodes[0].Size, T.Nodes[1].Size = 4, 1
	skipped := tree.Walk(T, 0, func(n int) bool { return n == 1 })
	T.Nodes[1].Size = 2
	if got := slices.Collect(skipped); !slices.Equal(got, []int{0, 1, 3}) {
		t.Errorf("4.4: the list as it was: %v", got)
	}
}

// TestSkipAsked: skip is asked once of each number that was given, behind it, and not of one at which the walk was left (4.4).
func TestSkipAsked(t *testing.T) {
	_, T := small()
	var all []int
	for n := range tree.Walk(T, 0, func(n int) bool { all = append(all, -n); return false }) {
		all = append(all, n+100)
		if n == 2 {
			break
		}
	}
	if !slices.Equal(all, []int{100, 0, 101, -1, 102}) {
		t.Errorf("4.4: %v", all)
	}
}

func TestFamiliesByWords(t *testing.T) {
	r := chance(1)
	valid := 0
	for range 20000 {
		pieces := r.IntN(12)
		x := anyTree(r, pieces)
		if got := tree.Valid(x, pieces); got != wordValid(x, pieces) {
			t.Fatalf("4.1: Valid(%v, %d) = %v", x, pieces, got)
		} else if got {
			valid++
		}
		for _, n := range places(r, x) {
			kids, ok := wordKids(x, n)
			if !ok {
				kids = nil
			}
			if got := tree.Kids(x, n); !slices.Equal(got, kids) {
				t.Fatalf("4.2: Kids(%v, %d) = %v, not %v", x, n, got, kids)
			}
			up := -1
			for m := range x.Nodes {
				if kids, ok := wordKids(x, m); ok && slices.Contains(kids, n) {
					up = m
				}
			}
			if got := tree.Up(x, n); got != up {
				t.Fatalf("4.3: Up(%v, %d) = %d, not %d", x, n, got, up)
			}
			skip := func(x int) bool { return x%3 == 1 }
			if got, want := slices.Collect(tree.Walk(x, n, skip)), wordWalk(x, n, skip); !slices.Equal(got, want) {
				t.Fatalf("4.4: Walk(%v, %d) gives %v, not %v", x, n, got, want)
			}
		}
	}
	if valid < 2000 {
		t.Errorf("only %d valid trees", valid)
	}
}

func wordWalk(t api.Tree, n int, skip func(int) bool) []int {
	if n < 0 || n >= len(t.Nodes) || t.Nodes[n].Size < 1 || t.Nodes[n].Size > len(t.Nodes)-n {
		return nil
	}
	var out []int
	for x := n; x < n+t.Nodes[n].Size; {
		out = append(out, x)
		if !skip(x) {
			x++
			continue
		}
		if t.Nodes[x].Size < 1 || t.Nodes[x].Size > len(t.Nodes) {
			break
		}
		x += t.Nodes[x].Size
	}
	return out
}

// TestFamilies: in a valid tree Kids, Up and Walk tell the same tree (4.13).
func TestFamilies(t *testing.T) {
	r := chance(2)
	for range 2000 {
		x := niceTree(r, 12)
		if !tree.Valid(x, 12) {
			t.Fatalf("4.1: %v", x)
		}
		parents := make([]int, len(x.Nodes))
		for n := range x.Nodes {
			for _, k := range tree.Kids(x, n) {
				parents[k]++
				if tree.Up(x, k) != n {
					t.Fatalf("4.13: Up(%v, %d) is not %d", x, k, n)
				}
			}
			walked := slices.Collect(tree.Walk(x, n, nil))
			if len(walked) != x.Nodes[n].Size || walked[0] != n || walked[len(walked)-1] != n+x.Nodes[n].Size-1 {
				t.Fatalf("4.13: Walk(%v, %d) gives %v", x, n, walked)
			}
		}
		for n, count := range parents {
			if want := min(n, 1); count != want {
				t.Fatalf("4.13: %v: node %d is a kid of %d", x, n, count)
			}
		}
		skipsWithin(t, x, func(n int) bool { return x.Nodes[n].Kind == api.NodeName })
	}
}

// skipsWithin: a walk leaves out just what lies within those of which skip is true (4.13).
func skipsWithin(t *testing.T, x api.Tree, skip func(int) bool) {
	t.Helper()
	var want []int
	for n := range x.Nodes {
		within := false
		for m := tree.Up(x, n); m >= 0; m = tree.Up(x, m) {
			within = within || skip(m)
		}
		if !within {
			want = append(want, n)
		}
	}
	if got := slices.Collect(tree.Walk(x, 0, skip)); !slices.Equal(got, want) {
		t.Fatalf("4.13: %v: %v, not %v", x, got, want)
	}
}
