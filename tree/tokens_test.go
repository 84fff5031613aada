package tree_test

import (
	"slices"
	"testing"

	"moniker/api"
	"moniker/tree"
)

func TestAt(t *testing.T) {
	l, T := small()
	run := func(n, first, end int) api.Tree { return with(n, func(x *api.Node) { x.First, x.End = first, end }) }
	for _, c := range []struct {
		t        api.Tree
		at, want int
	}{
		{T, 8, 1}, {T, 0, 0}, {T, 7, 0}, {T, 6, 0}, {T, 9, -1}, {T, -1, -1}, {T, most, -1}, {T, -most - 1, -1}, {api.Tree{}, 0, -1},
		{run(3, 0, 1), 6, 3}, {run(3, 0, 1), 7, 0}, {run(3, 2, 9), 8, 1}, {run(3, -1, 3), 8, 1}, {run(3, 3, 2), 8, 1}, {run(3, 3, 4), 9, -1}, {run(3, 1, 3), 8, 3}, {run(0, 0, 5), 0, -1},
	} {
		if got := tree.At(l, c.t, c.at); got != c.want {
			t.Errorf("4.5: At(%v, %d) = %d, not %d", c.t, c.at, got, c.want)
		}
	}
	if tree.At(nil, T, 0) != -1 || tree.At(l[:3], T, 8) != 1 {
		t.Error("4.5: pieces that are not there")
	}
}

func TestOwn(t *testing.T) {
	l, T := small()
	run := func(n, first, end int) api.Tree { return with(n, func(x *api.Node) { x.First, x.End = first, end }) }
	for _, c := range []struct {
		t    api.Tree
		n    int
		want []int
	}{
		{T, 0, []int{0, 3}}, {T, 1, []int{2}}, {T, 2, nil}, {T, 4, nil}, {T, -1, nil}, {T, 7, nil}, {api.Tree{}, 0, nil},
		{run(0, -most, most), 0, []int{0, 3}}, {run(0, 2, 9), 0, []int{3}}, {run(0, 3, 0), 0, nil}, {run(0, most, -most-1), 0, nil}, {run(1, -9, 9), 0, nil}, {run(1, 3, 2), 0, []int{0, 2, 3}}, {run(2, 0, 3), 0, []int{3}}, {run(3, 3, most), 0, []int{0}},
		{with(1, func(x *api.Node) { x.Size = 0 }), 0, []int{0, 2, 3}}, {with(0, func(x *api.Node) { x.Size = -1 }), 0, []int{0, 2, 3}},
	} {
		if got := tree.Own(l, c.t, c.n); !slices.Equal(got, c.want) {
			t.Errorf("4.6: Own(%v, %d) = %v, not %v", c.t, c.n, got, c.want)
		}
	}
	if got := tree.Own(l[:1], T, 0); !slices.Equal(got, []int{0}) {
		t.Errorf("4.6: pieces that are not there: %v", got)
	}
}

func TestNames(t *testing.T) {
	l, T := small()
	two := with(2, func(x *api.Node) { x.Kind, x.First = api.NodeName, 2 })
	for _, c := range []struct {
		text string
		t    api.Tree
		want []int
	}{
		{"package a", T, []int{2}}, {"package _", T, nil}, {"pack", T, nil}, {"", T, nil}, {"package é", T, []int{2}}, {"package a", api.Tree{}, nil}, {"package a", two, []int{2, 2}},
		{"package a", with(1, func(x *api.Node) { x.Kind = api.NodeText }), nil}, {"package a", with(1, func(x *api.Node) { x.First = 0 }), nil}, {"package a", with(1, func(x *api.Node) { x.First = -1 }), nil}, {"package a", with(1, func(x *api.Node) { x.First = 4 }), nil}, {"package a", with(1, func(x *api.Node) { x.End, x.Size = -1, -1 }), []int{2}},
	} {
		if got := tree.Names(c.text, l, c.t); !slices.Equal(got, c.want) {
			t.Errorf("4.7: Names(%q, %v) = %v", c.text, c.t, got)
		}
	}
	for _, p := range []api.Token{{Kind: api.TokName, From: 3, To: 3}, {Kind: api.TokName, From: 3, To: 2}, {Kind: api.TokName, From: -1, To: 2}, {Kind: api.TokName, From: 3, To: 10}, {Kind: api.TokNumber, From: 0, To: 2}} {
		if got := tree.Names("package a", []api.Token{p}, with(1, func(x *api.Node) { x.First = 0 })); len(got) != 0 {
			t.Errorf("4.7: %v is no name: %v", p, got)
		}
	}
}

func TestText(t *testing.T) {
	l, T := small()
	for _, c := range []struct {
		text string
		n    int
		want string
	}{{"package a", 0, "package a"}, {"package\na", 0, "package a"}, {"package a", 1, "a"}, {"package a", 2, ""}, {"package a", 4, ""}, {"package a", -1, ""}, {"package ", 0, "package"}, {"", 0, ""}} {
		if got := tree.Text(c.text, l, T, c.n); got != c.want {
			t.Errorf("4.9: Text(%q, %d) = %q", c.text, c.n, got)
		}
	}
	text := "package a; var x = f(  a,/* y */b,\n) // z\n"
	l, x := parsed(t, text)
	if got := tree.Text(text, l, x, 0); got != "package a ; var x = f ( a , b , )" {
		t.Errorf("4.9: %q", got)
	}
}

func TestSame(t *testing.T) {
	l, T := small()
	m, o := parsed(t, "package /**/ b")
	n, u := parsed(t, "package/**/b;")
	for _, c := range []struct {
		l    []api.Token
		a    api.Tree
		m    []api.Token
		b    api.Tree
		want bool
	}{
		{l, T, l, T, true}, {l, T, m, o, true}, {m, o, l, T, true}, {l, T, n, u, false}, {n, u, l, T, false}, {nil, api.Tree{}, l, api.Tree{}, true}, {l, T, l, api.Tree{}, false}, {l, api.Tree{}, l, T, false},
		{l, T, l, with(1, func(x *api.Node) { x.Kind = api.NodeText }), false}, {l, T, l, with(1, func(x *api.Node) { x.Size = 2 }), false}, {l, T, l, with(1, func(x *api.Node) { x.First = 1 }), true}, {l, T, l, with(1, func(x *api.Node) { x.First = 3 }), false}, {l, T, l, with(2, func(x *api.Node) { x.First, x.End = most, -5 }), true}, {l, T, l, with(0, func(x *api.Node) { x.First, x.End = -most-1, most }), true}, {l, T, l, with(0, func(x *api.Node) { x.First = 1 }), false},
		{l, T, nil, T, false}, {nil, T, nil, T, true},
	} {
		if got := tree.Same(c.l, c.a, c.m, c.b); got != c.want {
			t.Errorf("4.8: Same(%v, %v, %v, %v) = %v", c.l, c.a, c.m, c.b, got)
		}
	}
}

func TestTokensByWords(t *testing.T) {
	r := chance(3)
	for range 20000 {
		l := anyPieces(r, 12)
		x := anyTree(r, len(l))
		at := edge(r, 12)
		want := -1
		var names []int
		for n, node := range x.Nodes {
			if node.First >= 0 && node.First < node.End && node.End <= len(l) && l[node.First].From <= at && at < l[node.End-1].To {
				want = n
			}
			if node.Kind == api.NodeName && node.First >= 0 && node.First < len(l) && l[node.First].Kind == api.TokName {
				if w := wordOf(someText, l[node.First]); w != "" && w != "_" {
					names = append(names, node.First)
				}
			}
		}
		if got := tree.At(l, x, at); got != want {
			t.Fatalf("4.5: At(%v, %v, %d) = %d, not %d", l, x, at, got, want)
		}
		if got := tree.Names(someText, l, x); !slices.Equal(got, names) {
			t.Fatalf("4.7: Names(%v, %v) = %v, not %v", l, x, got, names)
		}
		for _, n := range places(r, x) {
			if got, want := tree.Own(l, x, n), wordOwn(l, x, n); !slices.Equal(got, want) {
				t.Fatalf("4.6: Own(%v, %v, %d) = %v, not %v", l, x, n, got, want)
			}
			if got, want := tree.Text(someText, l, x, n), wordText(someText, l, x, n); got != want {
				t.Fatalf("4.9: Text(%v, %v, %d) = %q, not %q", l, x, n, got, want)
			}
		}
		sameByWords(t, l, x, anyPieces(r, 12), anyTree(r, len(l)))
		m := slices.DeleteFunc(slices.Clone(l), func(p api.Token) bool { return p.Kind == api.TokNote && r.IntN(2) == 0 })
		y := api.Tree{Nodes: slices.Clone(x.Nodes)}
		if r.IntN(2) == 0 {
			y.Nodes[r.IntN(len(y.Nodes))].End += r.IntN(3) - 1
		}
		sameByWords(t, l, x, m, y)
	}
}

// TestSameOnwards: what is the same as a second, which is the same as a third, is the same as that (4.16).
func TestSameOnwards(t *testing.T) {
	texts := []string{"package a; var x = f(a, b)", "package\tb ; var/**/y=g(c,d)", "package a; var x = f(a, b) // c\n", "package a; var x = f(a - b)", "package a; var x = f(a + b)", "package a\nvar x = f(a, b)"}
	var l [][]api.Token
	var x []api.Tree
	for _, text := range texts {
		pieces, y := parsed(t, text)
		l, x = append(l, pieces), append(x, y)
	}
	alike := []int{0, 0, 0, 1, 2, 3}
	for i := range texts {
		for j := range texts {
			if got := tree.Same(l[i], x[i], l[j], x[j]); got != (alike[i] == alike[j]) {
				t.Errorf("4.16: %q and %q: %v", texts[i], texts[j], got)
			}
		}
	}
}

func sameByWords(t *testing.T, l []api.Token, a api.Tree, m []api.Token, b api.Tree) {
	t.Helper()
	want := wordSame(l, a, m, b)
	if got, back := tree.Same(l, a, m, b), tree.Same(m, b, l, a); got != want || back != want {
		t.Fatalf("4.8: Same(%v, %v, %v, %v) = %v, back %v, not %v", l, a, m, b, got, back, want)
	}
	if !tree.Same(l, a, l, a) {
		t.Fatalf("4.16: %v, %v is not as itself", l, a)
	}
	if want && tree.Sketch(a) != tree.Sketch(b) {
		t.Fatalf("4.16: %v and %v have two sketches", a, b)
	}
}

// TestOwnedOnce: in a valid tree each token of the first node's run is the own token of just one node, and each of a node's is its own or one kid's (4.14).
func TestOwnedOnce(t *testing.T) {
	r := chance(4)
	for range 3000 {
		l := anyPieces(r, 12)
		x := niceTree(r, len(l))
		var owned []int
		for n := range x.Nodes {
			owned = append(owned, tree.Own(l, x, n)...)
		}
		slices.Sort(owned)
		if want := wordTokens(l, x.Nodes[0]); !slices.Equal(owned, want) {
			t.Fatalf("4.14: %v over %v: %v, not %v", x, l, owned, want)
		}
	}
	l, x := parsed(t, source)
	owned := 0
	for n := range x.Nodes {
		owned += len(tree.Own(l, x, n))
	}
	if owned != len(wordTokens(l, api.Node{End: len(l)})) {
		t.Errorf("4.14: %d own tokens", owned)
	}
}

// TestDeepestAt: where the pieces follow one another, At tells the deepest node, and all around it hold the byte too (4.15).
func TestDeepestAt(t *testing.T) {
	r := chance(5)
	for range 1500 {
		var l []api.Token
		end := r.IntN(3)
		for range r.IntN(12) {
			from := end
			end += r.IntN(3)
			l = append(l, api.Token{Kind: api.TokName, From: from, To: end})
		}
		deepestAt(t, l, niceTree(r, len(l)), end+2)
	}
	l, x := parsed(t, source)
	deepestAt(t, l, x, len(source)+2)
}

func deepestAt(t *testing.T, l []api.Token, x api.Tree, end int) {
	t.Helper()
	holds := func(n, at int) bool {
		node := x.Nodes[n]
		return node.First < node.End && l[node.First].From <= at && at < l[node.End-1].To
	}
	depth := func(n int) int {
		d := 0
		for ; n >= 0; n = tree.Up(x, n) {
			d++
		}
		return d
	}
	for at := -1; at < end; at++ {
		found, deepest := tree.At(l, x, at), 0
		for n := range x.Nodes {
			if holds(n, at) {
				deepest = max(deepest, depth(n))
			}
		}
		if depth(found) != deepest {
			t.Fatalf("4.15: At(%v, %v, %d) = %d lies %d deep, not %d", l, x, at, found, depth(found), deepest)
		}
		for n := found; n >= 0; n = tree.Up(x, n) {
			if !holds(n, at) {
				t.Fatalf("4.15: %d around %d does not hold %d", n, found, at)
			}
		}
	}
}
