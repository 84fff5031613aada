package tree_test

import (
	"slices"
	"sync"
	"testing"
	"unsafe"

	"moniker/api"
	"moniker/tree"
)

// askAll calls every call with a tree over pieces.
func askAll(l []api.Token, x api.Tree) {
	tree.Valid(x, len(l))
	tree.Names(source, l, x)
	tree.Same(l, x, l, x)
	tree.Sketch(x)
	tree.At(l, x, 40)
	for n := range x.Nodes {
		tree.Kids(x, n)
		tree.Kid(x, n, 1)
		tree.Up(x, n)
		tree.Own(l, x, n)
		tree.Text(source, l, x, n)
		for range tree.Walk(x, n, func(n int) bool { return n%5 == 0 }) {
		}
	}
}

// TestNothingChanged: what is handed in stands as it stood, its spare room too (4.12, P4).
func TestNothingChanged(t *testing.T) {
	l, x := parsed(t, source)
	l, x.Nodes = slices.Grow(l, 20), slices.Grow(x.Nodes, 20)
	for i := len(l); i < cap(l); i++ {
		l[:cap(l)][i] = api.Token{Kind: 99, From: -i}
	}
	for i := len(x.Nodes); i < cap(x.Nodes); i++ {
		x.Nodes[:cap(x.Nodes)][i] = api.Node{Kind: 99, Size: -i}
	}
	pieces, nodes := slices.Clone(l[:cap(l)]), slices.Clone(x.Nodes[:cap(x.Nodes)])
	askAll(l, x)
	if !slices.Equal(pieces, l[:cap(l)]) || !slices.Equal(nodes, x.Nodes[:cap(x.Nodes)]) {
		t.Error("4.12: an argument was changed")
	}
}

// TestNewMemory: lists that are answered are new each time, and texts are no part of one that was handed in (4.12, P4).
func TestNewMemory(t *testing.T) {
	l, x := parsed(t, source)
	again := func(what string, ask func() []int) {
		t.Helper()
		first := ask()
		kept := slices.Clone(first)
		for i := range first[:cap(first)] {
			first[:cap(first)][i] = -99
		}
		if second := ask(); len(kept) == 0 || !slices.Equal(second, kept) {
			t.Errorf("4.12: %s: %v, not %v", what, second, kept)
		}
	}
	again("Kids", func() []int { return tree.Kids(x, 0) })
	again("Own", func() []int { return tree.Own(l, x, 0) })
	again("Names", func() []int { return tree.Names(source, l, x) })
	drawnOnce, _, _ := tree.Draw("List(Name Name)")
	drawnOnce.Nodes[0].Size = 9
	if drawnTwice, _, _ := tree.Draw("List(Name Name)"); drawnTwice.Nodes[0].Size != 3 {
		t.Error("4.12: Draw's tree changed with another")
	}
	begin := uintptr(unsafe.Pointer(unsafe.StringData(source)))
	for n := range x.Nodes {
		s := tree.Text(source, l, x, n)
		if at := uintptr(unsafe.Pointer(unsafe.StringData(s))); s != "" && at >= begin && at < begin+uintptr(len(source)) {
			t.Fatalf("4.12: the text of node %d is a part of the source", n)
		}
	}
	name := api.Tree{Nodes: []api.Node{{Kind: api.NodeName, Size: 1}}}
	if a, b := tree.Sketch(name), tree.Sketch(name); a != b || unsafe.StringData(a) == unsafe.StringData(b) {
		t.Error("4.12: two sketches share their bytes")
	}
}

// TestSameAnswers: an answer hangs on the arguments alone, whoever asks at the same time (P5).
func TestSameAnswers(t *testing.T) {
	l, x := parsed(t, source)
	walk := tree.Walk(x, 0, nil)
	want := slices.Collect(walk)
	var wait sync.WaitGroup
	for range 4 {
		wait.Go(func() {
			askAll(l, x)
			if !slices.Equal(slices.Collect(walk), want) {
				t.Error("P5: another walk")
			}
		})
	}
	wait.Wait()
}

// TestNilAndEmpty: nil and empty lists are alike (P3).
func TestNilAndEmpty(t *testing.T) {
	_, T := small()
	for _, l := range [][]api.Token{nil, {}} {
		if tree.At(l, T, 0) != -1 || len(tree.Own(l, T, 0)) != 0 || len(tree.Names("a", l, T)) != 0 || tree.Text("a", l, T, 0) != "" || !tree.Same(l, T, nil, T) {
			t.Error("P3: pieces")
		}
	}
	for _, x := range []api.Tree{{}, {Nodes: []api.Node{}}} {
		if tree.Valid(x, 0) || len(tree.Kids(x, 0)) != 0 || tree.Kid(x, 0, 0) != -1 || tree.Up(x, 0) != -1 || tree.Sketch(x) != "" || !tree.Same(nil, x, nil, api.Tree{}) || len(slices.Collect(tree.Walk(x, 0, nil))) != 0 {
			t.Error("P3: nodes")
		}
	}
}
