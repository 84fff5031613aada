package edits_test

import (
	"math/rand/v2"
	"slices"
	"testing"

	"moniker/api"
	"moniker/edits"
)

func TestMerge(t *testing.T) {
	for _, c := range []struct {
		a, b, want []api.Edit
		why        api.Errno
	}{
		{list(edit(0, 2, "x")), list(edit(4, 5, "y")), list(edit(0, 2, "x"), edit(4, 5, "y")), api.OK},
		{list(edit(3, 5, "x")), list(edit(5, 7, "z")), list(edit(3, 7, "xz")), api.OK},
		{list(edit(3, 5, "x"), edit(8, 9, "")), list(edit(5, 5, "y")), list(edit(3, 5, "xy"), edit(8, 9, "")), api.OK},
		{list(edit(5, 7, "z")), list(edit(5, 5, "y")), list(edit(5, 7, "yz")), api.OK},
		{list(edit(3, 6, "")), list(edit(5, 5, "y")), nil, api.ErrOrder},
		{list(edit(5, 5, "x")), list(edit(5, 5, "y")), nil, api.ErrOrder},
		{list(edit(5, 5, "")), list(edit(5, 5, "")), nil, api.ErrOrder},
		{list(edit(0, 9, "")), list(edit(0, 0, "a")), list(edit(0, 9, "a")), api.OK},
		{list(edit(0, 9, "")), list(edit(9, 9, "a")), list(edit(0, 9, "a")), api.OK},
		{list(edit(0, 9, "")), list(edit(0, 9, "")), nil, api.ErrOrder},
		{list(edit(0, 2, "a"), edit(4, 6, "c")), list(edit(2, 4, "b"), edit(6, 8, "d")), list(edit(0, 8, "abcd")), api.OK},
		{list(edit(0, 2, ""), edit(4, 6, "")), list(edit(1, 5, "")), nil, api.ErrOrder},
		{list(edit(2, 4, "x")), nil, list(edit(2, 4, "x")), api.OK},
		{nil, nil, nil, api.OK},
	} {
		for range 2 {
			got, why := edits.Merge(9, c.a, c.b)
			if !slices.Equal(got, c.want) || why != c.why {
				t.Errorf("1.7: Merge(9, %s, %s) = %s, %d, want %s, %d", show(c.a), show(c.b), show(got), why, show(c.want), c.why)
			}
			c.a, c.b = c.b, c.a
		}
	}
}

func TestMergeRefuses(t *testing.T) {
	over := make([]api.Edit, api.MaxEdits+1)
	beyond, crossed := list(edit(99, 99, "")), list(edit(1, 1, ""), edit(1, 1, ""))
	for _, c := range []struct {
		size int
		a, b []api.Edit
		want api.Errno
	}{
		{-1, crossed, crossed, api.ErrArg},
		{maxSize + 1, nil, nil, api.ErrArg},
		{9, beyond, over, api.ErrSpan},
		{9, over, beyond, api.ErrMany},
		{9, crossed, beyond, api.ErrOrder},
		{9, list(edit(1, 3, "")), append(list(edit(2, 4, "")), beyond...), api.ErrSpan},
		{9, nil, crossed, api.ErrOrder},
		{9, nil, over, api.ErrMany},
	} {
		if got, why := edits.Merge(c.size, c.a, c.b); len(got) != 0 || why != c.want {
			t.Errorf("1.7: Merge(%d, ..) = %s, %d, want %d", c.size, show(got), why, c.want)
		}
	}
}

func TestMergeBounds(t *testing.T) {
	full := insertions(api.MaxEdits, 0, "a")
	size := 4 * api.MaxEdits
	if got, why := edits.Merge(size, full, list(edit(size, size, "b"))); len(got) != 0 || why != api.ErrMany {
		t.Errorf("1.7: one more than MaxEdits: %d edits, %d", len(got), why)
	}
	if _, why := edits.Merge(size, full, list(edit(0, 0, "b"), edit(size, size, "b"))); why != api.ErrOrder {
		t.Errorf("1.7: what meets is told ahead of the number: %d", why)
	}
	got, why := edits.Merge(size, full, list(edit(0, 1, "b")))
	if len(must(t, got, why)) != api.MaxEdits || got[0] != edit(0, 1, "ab") {
		t.Errorf("1.7: MaxEdits edits: %d of them", len(got))
	}
	var odd []api.Edit
	for _, e := range full {
		odd = append(odd, edit(e.From, e.From+1, "b"))
	}
	got, why = edits.Merge(size, full, odd)
	if len(must(t, got, why)) != api.MaxEdits || got[api.MaxEdits-1] != edit(2*api.MaxEdits-2, 2*api.MaxEdits-1, "ab") {
		t.Errorf("1.7: twice MaxEdits edits that touch by twos: %d of them", len(got))
	}
	got, why = edits.Merge(maxSize, list(edit(maxSize, maxSize, "b")), list(edit(0, maxSize, "a")))
	sameList(t, "1.7: at 2^62", must(t, got, why), list(edit(0, maxSize, "ab")))
}

// meet follows the words of the chapter.
func meet(e, f api.Edit) bool {
	common := max(e.From, f.From) < min(e.To, f.To)
	within := func(e, f api.Edit) bool { return e.From == e.To && f.From < e.From && e.From < f.To }
	both := e.From == e.To && f.From == f.To && e.From == f.From
	return common || within(e, f) || within(f, e) || both
}

// merged follows the words of 1.7.
func merged(a, b []api.Edit) ([]api.Edit, api.Errno) {
	for _, e := range a {
		for _, f := range b {
			if meet(e, f) {
				return nil, api.ErrOrder
			}
		}
	}
	all := slices.Concat(a, b)
	slices.SortFunc(all, func(e, f api.Edit) int {
		if e.From != f.From {
			return e.From - f.From
		}
		return e.To - f.To // of one From, one of them is an insertion
	})
	var out []api.Edit
	for _, e := range all {
		if n := len(out); n > 0 && out[n-1].To == e.From {
			out[n-1] = edit(out[n-1].From, e.To, out[n-1].Text+e.Text)
			continue
		}
		out = append(out, e)
	}
	return out, api.OK
}

func TestMergeByItsWords(t *testing.T) {
	of := allLists(4, "", "x")
	for _, a := range of {
		for _, b := range of {
			got, why := edits.Merge(4, a, b)
			want, wantWhy := merged(a, b)
			if !slices.Equal(got, want) || why != wantWhy {
				t.Fatalf("1.7: Merge(4, %s, %s) = %s, %d, want %s, %d", show(a), show(b), show(got), why, show(want), wantWhy)
			}
			if why == api.OK && edits.Valid(4, got) != api.OK {
				t.Fatalf("1.7: Merge(4, %s, %s) = %s is not valid", show(a), show(b), show(got))
			}
		}
	}
}

func TestMergeDoesBoth(t *testing.T) {
	r := rand.New(rand.NewPCG(1, 14))
	accepted := 0
	for range 20000 {
		text := someText(r, r.IntN(20))
		a, b := someList(r, len(text)), someList(r, len(text))
		got, why := edits.Merge(len(text), a, b)
		other, otherWhy := edits.Merge(len(text), b, a)
		if !slices.Equal(got, other) || why != otherWhy {
			t.Fatalf("1.14: Merge of %s, %s hangs on their order", show(a), show(b))
		}
		if why != api.OK {
			continue
		}
		accepted++
		want, _ := edits.Apply(text, a)
		for _, e := range slices.Backward(b) {
			at, ok := edits.Shift(a, e.From)
			if !ok {
				t.Fatalf("1.14: %s and %s were merged", show(a), show(b))
			}
			want = want[:at] + e.Text + want[at+e.To-e.From:]
		}
		if after, why := edits.Apply(text, got); after != want || why != api.OK {
			t.Fatalf("1.14: %q by Merge of %s, %s: %q, want %q", text, show(a), show(b), after, want)
		}
	}
	if accepted < 1000 {
		t.Errorf("only %d were merged", accepted)
	}
}
