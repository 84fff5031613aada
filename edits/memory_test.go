package edits_test

import (
	"slices"
	"testing"

	"moniker/api"
	"moniker/edits"
)

// roomy is a list with spare room, and all of its memory.
func roomy(l ...api.Edit) (part, whole []api.Edit) {
	whole = slices.Concat(l, list(edit(71, 72, "spare"), edit(73, 74, "room")))
	return whole[:len(l):len(whole)], whole
}

// lists are all calls that answer a list, of two lists.
func lists(a, b []api.Edit) map[string][]api.Edit {
	out := map[string][]api.Edit{}
	out["Invert"], _ = edits.Invert("abcdefghi", a)
	out["Normal"], _ = edits.Normal("abcdefghi", a)
	out["Compose"], _ = edits.Compose(9, a, b)
	out["Compose with none"], _ = edits.Compose(9, a, nil)
	out["Compose none with"], _ = edits.Compose(9, nil, a)
	out["Merge"], _ = edits.Merge(9, a, b)
	out["Merge with none"], _ = edits.Merge(9, a, nil)
	out["Merge none with"], _ = edits.Merge(9, nil, a)
	out["Parse"], _, _ = edits.Parse(edits.Print(a))
	return out
}

func spoil(l []api.Edit) {
	l = l[:cap(l)]
	for i := range l {
		l[i] = edit(-1, -2, "spoilt")
	}
}

func TestNewMemory(t *testing.T) {
	a, wholeA := roomy(edit(1, 2, "x"), edit(4, 6, ""))
	b, wholeB := roomy(edit(2, 3, "y"), edit(7, 7, "z"))
	beforeA, beforeB := slices.Clone(wholeA), slices.Clone(wholeB)
	edits.Apply("abcdefghi", a)
	edits.Shift(a, 3)
	edits.Valid(9, a)
	first, second := lists(a, b), lists(a, b)
	want := map[string][]api.Edit{}
	for name, l := range second {
		if len(l) == 0 {
			t.Fatalf("%s answered no list", name)
		}
		want[name] = slices.Clone(l)
	}
	for _, l := range first {
		spoil(l)
	}
	if !slices.Equal(wholeA, beforeA) || !slices.Equal(wholeB, beforeB) {
		t.Error("1.10: what was handed in was changed, or an answer shares memory with it")
	}
	spoil(a)
	spoil(b)
	for name, l := range second {
		if !slices.Equal(l, want[name]) {
			t.Errorf("1.10: %s shares memory with another answer, or kept what was handed in", name)
		}
	}
}

// TestNilAndEmpty: P3.
func TestNilAndEmpty(t *testing.T) {
	for _, l := range [][]api.Edit{nil, {}} {
		if s, why := edits.Apply("ab", l); s != "ab" || why != api.OK || edits.Print(l) != "" {
			t.Error("P3: an empty list of edits")
		}
		for name, got := range lists(l, l) {
			if len(got) != 0 {
				t.Errorf("P3: %s of empty lists: %s", name, show(got))
			}
		}
	}
}
