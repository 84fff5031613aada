package edits_test

import (
	"math/rand/v2"
	"slices"
	"testing"

	"moniker/api"
	"moniker/edits"
)

func TestCompose(t *testing.T) {
	for _, c := range []struct {
		a, b, want []api.Edit
	}{
		{list(edit(1, 3, "xyz")), list(edit(0, 2, "Q")), list(edit(0, 3, "Qyz"))},
		{list(edit(1, 3, "xyz")), list(edit(4, 5, "")), list(edit(1, 4, "xyz"))},
		{list(edit(1, 1, "x")), list(edit(1, 2, "")), list(edit(1, 1, ""))},
		{list(edit(1, 2, "")), list(edit(1, 2, "")), list(edit(1, 3, ""))},
		{list(edit(0, 1, "")), list(edit(2, 3, "Z")), list(edit(0, 1, ""), edit(3, 4, "Z"))},
		{list(edit(2, 2, "pqr")), list(edit(2, 2, "A"), edit(4, 4, "B")), list(edit(2, 2, "ApqBr"))},
		{list(edit(0, 1, "p"), edit(4, 5, "q")), list(edit(0, 5, "")), list(edit(0, 5, ""))},
		{list(edit(1, 1, "")), list(edit(3, 3, "")), list(edit(1, 1, ""), edit(3, 3, ""))},
		{nil, nil, nil},
	} {
		got, why := edits.Compose(5, c.a, c.b)
		if !slices.Equal(got, c.want) || why != api.OK {
			t.Errorf("1.5: Compose(5, %s, %s) = %s, %d, want %s", show(c.a), show(c.b), show(got), why, show(c.want))
		}
	}
}

func TestComposeRefuses(t *testing.T) {
	over := make([]api.Edit, api.MaxEdits+1)
	beyond, crossed := list(edit(9, 9, "")), list(edit(1, 1, ""), edit(1, 1, ""))
	for _, c := range []struct {
		size int
		a, b []api.Edit
		want api.Errno
	}{
		{-1, crossed, crossed, api.ErrArg},
		{maxSize + 1, nil, nil, api.ErrArg},
		{5, over, beyond, api.ErrMany},
		{5, beyond, over, api.ErrSpan},
		{5, crossed, beyond, api.ErrOrder},
		{5, nil, over, api.ErrMany},
		{5, nil, beyond, api.ErrSpan},
		{5, nil, crossed, api.ErrOrder},
		{5, list(edit(0, 5, "")), list(edit(0, 1, "")), api.ErrSpan},
	} {
		if got, why := edits.Compose(c.size, c.a, c.b); len(got) != 0 || why != c.want {
			t.Errorf("1.5: Compose(%d, ..) = %s, %d, want %d", c.size, show(got), why, c.want)
		}
	}
}

func TestComposeBounds(t *testing.T) {
	a, b := list(edit(maxSize, maxSize, "xy")), list(edit(maxSize+1, maxSize+2, "z"))
	got, why := edits.Compose(maxSize, a, b)
	sameList(t, "1.5: above 2^62", must(t, got, why), list(edit(maxSize, maxSize, "xz")))
	got, why = edits.Compose(maxSize, list(edit(0, 0, "x")), list(edit(maxSize+1, maxSize+1, "y")))
	sameList(t, "1.5: an end above 2^62", must(t, got, why), list(edit(0, 0, "x"), edit(maxSize, maxSize, "y")))

	full := insertions(api.MaxEdits, 0, "a")
	size := 2 * api.MaxEdits
	got, why = edits.Compose(size, full, list(edit(0, 0, "b")))
	if len(must(t, got, why)) != api.MaxEdits || got[0].Text != "ba" {
		t.Errorf("1.5: MaxEdits edits: %d of them", len(got))
	}
	end := size + api.MaxEdits
	if got, why := edits.Compose(size, full, list(edit(end, end, "b"))); len(got) != 0 || why != api.ErrMany {
		t.Errorf("1.5: one more: %d edits, %d", len(got), why)
	}
}

// cell is a byte of a text in the model: its place in the old text, -1 if it was put in.
type cell struct {
	old  int
	text byte
}

func putInto(cells []cell, l []api.Edit) []cell {
	var out []cell
	at := 0
	for _, e := range l {
		out = append(out, cells[at:e.From]...)
		for i := range len(e.Text) {
			out = append(out, cell{-1, e.Text[i]})
		}
		at = e.To
	}
	return append(out, cells[at:]...)
}

// composed follows the words of 1.5: an edit for each place between two kept bytes at which one of the lists has an edit.
func composed(size int, a, b []api.Edit) []api.Edit {
	var first []cell
	for i := range size {
		first = append(first, cell{old: i})
	}
	between := putInto(first, a)
	end := putInto(between, b)
	kept := map[int]bool{}
	for _, c := range end {
		if c.old >= 0 {
			kept[c.old] = true
		}
	}
	keptAhead := func(cells []cell, at int) int {
		n := 0
		for _, c := range cells[:at] {
			if c.old >= 0 && kept[c.old] {
				n++
			}
		}
		return n
	}
	asked := map[int]bool{}
	for _, e := range a {
		asked[keptAhead(first, e.From)] = true
	}
	for _, e := range b {
		asked[keptAhead(between, e.From)] = true
	}
	gaps := make([]api.Edit, 1)
	for _, c := range end {
		last := &gaps[len(gaps)-1]
		if c.old < 0 {
			last.Text += string([]byte{c.text})
			continue
		}
		last.To = c.old
		gaps = append(gaps, edit(c.old+1, 0, ""))
	}
	gaps[len(gaps)-1].To = size
	var out []api.Edit
	for n, gap := range gaps {
		if asked[n] {
			out = append(out, gap)
		}
	}
	return out
}

func TestComposeByItsWords(t *testing.T) {
	const size = 3
	for _, a := range allLists(size, "", "x", "yz") {
		between := size
		for _, e := range a {
			between += len(e.Text) - (e.To - e.From)
		}
		for _, b := range allLists(between, "", "Q") {
			got, why := edits.Compose(size, a, b)
			if want := composed(size, a, b); !slices.Equal(got, want) || why != api.OK {
				t.Fatalf("1.5: Compose(%d, %s, %s) = %s, %d, want %s", size, show(a), show(b), show(got), why, show(want))
			}
		}
	}
}

func TestComposeFollows(t *testing.T) {
	r := rand.New(rand.NewPCG(1, 12))
	for range 5000 {
		text := someText(r, r.IntN(16))
		a := someList(r, len(text))
		second, why := edits.Apply(text, a)
		must(t, second, why)
		b := someList(r, len(second))
		third, why := edits.Apply(second, b)
		must(t, third, why)
		c := someList(r, len(third))

		ab, why := edits.Compose(len(text), a, b)
		sameList(t, "1.5: the model", must(t, ab, why), composed(len(text), a, b))
		if got, why := edits.Apply(text, ab); got != third || why != api.OK {
			t.Fatalf("1.12: %q by %s, %s: %q, want %q", text, show(a), show(b), got, third)
		}
		bc, why := edits.Compose(len(second), b, c)
		must(t, bc, why)
		left, why := edits.Compose(len(text), ab, c)
		must(t, left, why)
		right, why := edits.Compose(len(text), a, bc)
		sameList(t, "1.12: three lists", must(t, right, why), left)

		same, why := edits.Compose(len(text), a, nil)
		sameList(t, "1.12: with none behind", must(t, same, why), a)
		same, why = edits.Compose(len(text), nil, a)
		sameList(t, "1.12: with none ahead", must(t, same, why), a)

		back, why := edits.Invert(text, a)
		must(t, back, why)
		nothing, why := edits.Compose(len(text), a, back)
		must(t, nothing, why)
		nothing, why = edits.Normal(text, nothing)
		sameList(t, "1.12: with what takes it back", must(t, nothing, why), nil)
	}
}

// TestComposeChains has groups of very many edits that overlap one another in turn.
func TestComposeChains(t *testing.T) {
	var a, b []api.Edit
	for i := range api.MaxEdits {
		a = append(a, edit(3*i, 3*i+2, "pq"))
		b = append(b, edit(3*i+1, 3*i+3, "r"))
	}
	size := 3 * api.MaxEdits
	got, why := edits.Compose(size, a, b)
	if len(must(t, got, why)) != 1 || got[0].From != 0 || got[0].To != size || len(got[0].Text) != 2*api.MaxEdits || got[0].Text[:4] != "prpr" {
		t.Errorf("1.5: a chain: %d edits", len(got))
	}
}
