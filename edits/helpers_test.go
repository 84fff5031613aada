package edits_test

import (
	"math/rand/v2"
	"slices"
	"strings"
	"testing"

	"moniker/api"
	"moniker/edits"
)

const maxSize = 1 << 62

// edit and list keep the tables of tests short.
func edit(from, to int, text string) api.Edit { return api.Edit{From: from, To: to, Text: text} }

func list(l ...api.Edit) []api.Edit { return l }

// show is a list on one line, for what a failing test tells.
func show(l []api.Edit) string {
	return strings.ReplaceAll(strings.TrimSuffix(edits.Print(l), "\n"), "\n", " ")
}

// insertions are so many insertions of a text, with one byte between.
func insertions(n, first int, text string) []api.Edit {
	var out []api.Edit
	for i := range n {
		out = append(out, edit(first+2*i, first+2*i, text))
	}
	return out
}

// allLists are all valid lists of at most two edits of a text of that size, with these texts.
func allLists(size int, texts ...string) [][]api.Edit {
	var single []api.Edit
	for from := range size + 1 {
		for to := from; to <= size; to++ {
			for _, s := range texts {
				single = append(single, edit(from, to, s))
			}
		}
	}
	out := [][]api.Edit{nil}
	for _, e := range single {
		out = append(out, list(e))
		for _, f := range single {
			if f.From > e.To {
				out = append(out, list(e, f))
			}
		}
	}
	return out
}

// someList is a valid list, by chance, for a text of that size.
func someList(r *rand.Rand, size int) []api.Edit {
	var out []api.Edit
	for at := r.IntN(4); at <= size && r.IntN(8) > 0; at += 1 + r.IntN(4) {
		to := min(size, at+r.IntN(3)*r.IntN(3))
		out = append(out, edit(at, to, someText(r, r.IntN(4))))
		at = to
	}
	return out
}

// someText has few letters, so that it often begins and ends as others do.
func someText(r *rand.Rand, n int) string {
	var out []byte
	for range n {
		out = append(out, "abX"[r.IntN(3)])
	}
	return string(out)
}

// must is the answer of a call that may not be refused.
func must[T any](t *testing.T, got T, why api.Errno) T {
	t.Helper()
	if why != api.OK {
		t.Fatalf("refused: %d", why)
	}
	return got
}

func sameList(t *testing.T, what string, got, want []api.Edit) {
	t.Helper()
	if !slices.Equal(got, want) {
		t.Fatalf("%s: %s, want %s", what, show(got), show(want))
	}
}
