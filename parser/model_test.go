package parser_test

import (
	"slices"
	"testing"

	"moniker/api"
	"moniker/parser"
)

// TestGrown: files that grew by the rules have just the trees that grew with them (3.1, 3.7, 3.9, 0.3's table and the chapter's runs).
func TestGrown(t *testing.T) {
	r := chance(1)
	seen := map[api.NodeKind]int{}
	for range 20000 {
		kinds, s := grown(r, 5+r.IntN(90))
		text, l, places := laid(r, kinds)
		x, f := parser.Parse(text, l)
		if want := nodesOf(s, places); f != zero || !slices.Equal(x.Nodes, want) {
			t.Fatalf("3.1: %v:\n%v\n%v, not\n%v", kindsOf(l), f, x.Nodes, want)
		}
		for _, n := range x.Nodes {
			seen[n.Kind]++
		}
		ownedOnce(t, l, places, x.Nodes)
	}
	for k := range api.NodeCount {
		if seen[k] < 50 {
			t.Errorf("kind %d grew %d times", k, seen[k])
		}
	}
}

// ownedOnce: each token is the own token of just one node (3.7).
func ownedOnce(t *testing.T, l []api.Token, places []int, nodes []api.Node) {
	t.Helper()
	var owned []int
	for n := range nodes {
		owned = append(owned, ownOf(l, nodes, n)...)
	}
	slices.Sort(owned)
	if !slices.Equal(owned, places[:len(places)-1]) {
		t.Fatalf("3.7: %v: own tokens %v", kindsOf(l), owned)
	}
}

// TestFronts: a front of a File's tokens is a File, or its fault is at the text's length (3.8).
func TestFronts(t *testing.T) {
	r := chance(2)
	g := newGrammar(t)
	for range 300 {
		kinds, _ := grown(r, 5+r.IntN(60))
		c := g.start()
		for n, k := range kinds {
			text, l, _ := laid(r, kinds[:n])
			if whole := c.whole(); !whole {
				refused(t, text, l, api.Fault{Why: api.ErrParse, At: len(text)})
			} else if _, f := parser.Parse(text, l); f != zero {
				t.Fatalf("3.8: %v: %v", kinds[:n], f)
			}
			on, ok := c.goesOn(k)
			if !ok {
				t.Fatalf("the grammar stops at %d of %v", n, kinds)
			}
			c = on
		}
		if !c.whole() {
			t.Fatalf("no File by the grammar: %v", kinds)
		}
	}
}

// TestGoesOn: at places of files by chance, of every kind whether it goes on there (3.2).
func TestGoesOn(t *testing.T) {
	r := chance(3)
	g := newGrammar(t)
	for range 60 {
		kinds, _ := grown(r, 5+r.IntN(60))
		c := g.start()
		kinds = kinds[:r.IntN(len(kinds)+1)]
		for _, k := range kinds {
			c, _ = c.goesOn(k)
		}
		for range 25 {
			c, kinds = oneFurther(t, c, kinds, r.IntN)
		}
	}
}

// oneFurther asks every kind at the end of a front and goes on with one that may stand there.
func oneFurther(t *testing.T, c *charts, kinds []api.Kind, pick func(int) int) (*charts, []api.Kind) {
	t.Helper()
	var may []*charts
	var with []api.Kind
	for k := range api.KindCount + 3 {
		if k == api.TokBlanks || k == api.TokNote {
			continue
		}
		on, ok := c.goesOn(k)
		all := append(slices.Clone(kinds), k)
		text, l, places := laid(chance(uint64(k)), all)
		_, f := parser.Parse(text, l)
		if goes := f != stuckAt(text, l, places, len(all)-1); goes != ok {
			t.Fatalf("3.2: %v: the last one goes on: %v, not %v (%v)", all, goes, ok, f)
		}
		if ok {
			may, with = append(may, on), append(with, k)
		}
	}
	n := pick(len(may))
	return may[n], append(slices.Clip(kinds), with[n])
}

// TestBroken: files with a token lost, more, changed or moved are refused at the first token that cannot go on (3.2).
func TestBroken(t *testing.T) {
	r := chance(4)
	g := newGrammar(t)
	refusals := 0
	for range 3000 {
		kinds, _ := grown(r, 5+r.IntN(50))
		for range 1 + r.IntN(2) {
			at := r.IntN(len(kinds))
			other := api.TokName + api.Kind(r.IntN(int(api.KindCount-api.TokName)))
			switch r.IntN(4) {
			case 0:
				kinds = slices.Delete(kinds, at, at+1)
			case 1:
				kinds = slices.Insert(kinds, at, other)
			case 2:
				kinds[at] = other
			case 3:
				to := r.IntN(len(kinds))
				kinds[at], kinds[to] = kinds[to], kinds[at]
			}
			if len(kinds) == 0 {
				break
			}
		}
		text, l, places := laid(r, kinds)
		n := g.firstStuck(kinds)
		if n >= 0 {
			refusals++
			refused(t, text, l, stuckAt(text, l, places, n))
		} else if _, f := parser.Parse(text, l); f != zero {
			t.Fatalf("3.1: %v: %v", kinds, f)
		}
	}
	if refusals < 1500 {
		t.Errorf("only %d refusals", refusals)
	}
}
