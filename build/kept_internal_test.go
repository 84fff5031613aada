package build

import (
	"testing"

	"moniker/api"
)

// TestReadOnce: what is kept is not read again, and no more is kept than the last call's.
func TestReadOnce(t *testing.T) {
	b, _ := New(2)
	m := api.File{Name: "m", Text: "package main; func main() { }"}
	x := api.File{Name: "x/a", Text: "package x"}
	y := api.File{Name: "y/a", Text: "package y"}
	b.Open([]api.File{m, x})
	was := b.last.known(m.Text)
	b.Open([]api.File{y, {Name: "n", Text: m.Text}})
	if was == nil || b.last.known(m.Text) != was {
		t.Error("18: a text that is kept was read again")
	}
	if b.last.known(x.Text) != nil || len(b.last.texts) != 2 {
		t.Errorf("18: %d texts are kept", len(b.last.texts))
	}
	w, _ := b.Open([]api.File{m})
	b.Rename([]api.File{m}, 0, 19, "f")
	if again, _ := b.Open([]api.File{m}); w == nil || again != w {
		t.Error("18: a whole program was opened again")
	}
	b.Drop()
	if b.last != nil {
		t.Error("18.5: something is kept")
	}
}

// TestShare: each number is done once, however many workers there are.
func TestShare(t *testing.T) {
	for workers := 1; workers <= api.MaxWork; workers++ {
		b, _ := New(workers)
		for _, n := range []int{0, 1, workers, 100} {
			done := make([]int, n)
			b.share(n, func(i int) { done[i]++ })
			for i, times := range done {
				if times != 1 {
					t.Fatalf("18.6: %d workers: number %d was done %d times", workers, i, times)
				}
			}
		}
	}
}
