package graphs_test

import (
	"slices"
	"testing"

	"moniker/api"
	"moniker/graphs"
)

// byWords holds every call against the chapter's words.
func byWords(t *testing.T, n int, edges [][2]int) {
	t.Helper()
	l, cycle, e := graphs.Order(n, edges)
	if want, ring, why := wordOrder(n, edges); !slices.Equal(l, want) || !slices.Equal(cycle, ring) || e != why {
		t.Fatalf("6.1: Order(%d, %v) = %v, %v, %d, not %v, %v, %d", n, edges, l, cycle, e, want, ring, why)
	}
	for x := range n {
		if l, e := graphs.Reach(n, edges, x); !slices.Equal(l, wordReach(n, edges, x)) || e != api.OK {
			t.Fatalf("6.2: Reach(%d, %v, %d) = %v, %d", n, edges, x, l, e)
		}
	}
	if l, e := graphs.Parts(n, edges); !sameLists(l, wordParts(n, edges)) || e != api.OK {
		t.Fatalf("6.3: Parts(%d, %v) = %v, %d, not %v", n, edges, l, e, wordParts(n, edges))
	}
	if l, e := graphs.Classes(n, edges); !slices.Equal(l, wordClasses(n, edges)) || e != api.OK {
		t.Fatalf("6.4: Classes(%d, %v) = %v, %d", n, edges, l, e)
	}
}

// TestAllSmall: all graphs of up to three things.
func TestAllSmall(t *testing.T) {
	for n := range 4 {
		for set := range 1 << (n * n) {
			var edges [][2]int
			for i := range n * n {
				if set>>i&1 == 1 {
					edges = append(edges, [2]int{i / n, i % n})
				}
			}
			byWords(t, n, edges)
		}
	}
}

func TestByWords(t *testing.T) {
	r := chance(1)
	for range 6000 {
		n := 1 + r.IntN(7)
		edges := somePairs(r, n, r.IntN(10))
		if r.IntN(3) == 0 { // without a cycle: in a hidden order each needs only what is ahead
			hidden := r.Perm(n)
			edges = slices.DeleteFunc(edges, func(e [2]int) bool { return hidden[e[0]] <= hidden[e[1]] })
		}
		byWords(t, n, edges)
	}
}

// TestOrderAndParts: Order's answer is what the parts say (6.6), which hang on what is reached alone (6.7).
func TestOrderAndParts(t *testing.T) {
	r := chance(2)
	rings := 0
	for range 400 {
		n := 1 + r.IntN(60)
		edges := somePairs(r, n, r.IntN(2*n))
		if r.IntN(2) == 0 {
			edges = slices.DeleteFunc(edges, func(e [2]int) bool { return e[0] <= e[1] })
		}
		row, cycle, e := graphs.Order(n, edges)
		parts, _ := graphs.Parts(n, edges)
		at := make([]int, n)
		single := true
		for i, part := range parts {
			single = single && len(part) == 1 && !wordNeeds(edges, part[0], part[0])
			for _, x := range part {
				at[x] = i
			}
		}
		if single != (e == api.OK) || single && !slices.Equal(slices.Concat(parts...), row) {
			t.Fatalf("6.6: Order(%d, %v) = %v, %d; Parts = %v", n, edges, row, e, parts)
		}
		for i, x := range cycle {
			if at[x] != at[cycle[0]] || !wordNeeds(edges, x, cycle[(i+1)%len(cycle)]) || x < cycle[0] {
				t.Fatalf("6.6: Order(%d, %v): the cycle %v; Parts = %v", n, edges, cycle, parts)
			}
		}
		if len(cycle) > 0 {
			rings++
		}
		reachAndParts(t, n, edges, at)
	}
	if rings < 50 {
		t.Errorf("only %d cycles", rings)
	}
}

func reachAndParts(t *testing.T, n int, edges [][2]int, at []int) {
	t.Helper()
	var reach [][]int
	for x := range n {
		l, _ := graphs.Reach(n, edges, x)
		reach = append(reach, l)
	}
	for x := range n {
		for y := range n {
			both := slices.Contains(reach[x], y) && slices.Contains(reach[y], x)
			if both != (at[x] == at[y]) || both && !slices.Equal(reach[x], reach[y]) {
				t.Fatalf("6.7: %d, %v: %d and %d reach %v and %v", n, edges, x, y, reach[x], reach[y])
			}
		}
		for _, y := range reach[x] {
			for _, z := range reach[y] {
				if !slices.Contains(reach[x], z) {
					t.Fatalf("6.7: %d, %v: %d is reached from %d, %d from that", n, edges, y, x, z)
				}
			}
		}
	}
}

// TestClassesHangOn: not on the order of ties and of their ends, nor on one within a class (6.8).
func TestClassesHangOn(t *testing.T) {
	r := chance(3)
	for range 500 {
		n := 1 + r.IntN(40)
		ties := somePairs(r, n, r.IntN(n+1))
		low, _ := graphs.Classes(n, ties)
		other := slices.Clone(ties)
		r.Shuffle(len(other), func(i, j int) { other[i], other[j] = other[j], other[i] })
		for i := range other {
			if r.IntN(2) == 0 {
				other[i][0], other[i][1] = other[i][1], other[i][0]
			}
		}
		x := r.IntN(n)
		if l, _ := graphs.Classes(n, append(other, [2]int{x, low[x]})); !slices.Equal(l, low) {
			t.Fatalf("6.8: Classes(%d, %v) = %v, of %v %v", n, ties, low, other, l)
		}
		y := r.IntN(n)
		want := slices.Clone(low)
		for i, c := range low {
			if c == low[x] || c == low[y] {
				want[i] = min(low[x], low[y])
			}
			if low[c] != c {
				t.Fatalf("6.8: Classes(%d, %v) = %v: %d is not of its own class", n, ties, low, c)
			}
		}
		if l, _ := graphs.Classes(n, append(slices.Clone(ties), [2]int{x, y})); !slices.Equal(l, want) {
			t.Fatalf("6.8: Classes(%d, %v and %d-%d) = %v, not %v", n, ties, x, y, l, want)
		}
		parts, _ := graphs.Parts(n, ties)
		for _, part := range parts {
			if slices.ContainsFunc(part, func(z int) bool { return low[z] != low[part[0]] }) {
				t.Fatalf("6.8: the part %v lies in several classes of %v", part, low)
			}
		}
	}
}

// TestOneMore: a thing without edges changes no list but that it stands in it (6.9).
func TestOneMore(t *testing.T) {
	r := chance(4)
	for range 500 {
		n := 1 + r.IntN(30)
		edges := somePairs(r, n, r.IntN(n+1))
		if r.IntN(2) == 0 {
			edges = slices.DeleteFunc(edges, func(e [2]int) bool { return e[0] <= e[1] })
		}
		row, cycle, e := graphs.Order(n, edges)
		if e == api.OK {
			row = append(row, n) // it may come anywhere, but a lower one always may too
		}
		if l, ring, why := graphs.Order(n+1, edges); !slices.Equal(l, row) || !slices.Equal(ring, cycle) || why != e {
			t.Fatalf("6.9: Order(%d, %v) = %v, %v, with one more %v, %v", n, edges, row, cycle, l, ring)
		}
		parts, _ := graphs.Parts(n, edges)
		if l, _ := graphs.Parts(n+1, edges); !sameLists(l, append(parts, []int{n})) {
			t.Fatalf("6.9: Parts(%d, %v) = %v, with one more %v", n, edges, parts, l)
		}
		low, _ := graphs.Classes(n, edges)
		if l, _ := graphs.Classes(n+1, edges); !slices.Equal(l, append(low, n)) {
			t.Fatalf("6.9: Classes(%d, %v) = %v, with one more %v", n, edges, low, l)
		}
		reached, _ := graphs.Reach(n, edges, 0)
		if l, _ := graphs.Reach(n+1, edges, 0); !slices.Equal(l, reached) {
			t.Fatalf("6.9: Reach(%d, %v, 0) = %v, with one more %v", n, edges, reached, l)
		}
	}
}
