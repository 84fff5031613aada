package edits_test

import (
	"math"
	"math/rand/v2"
	"slices"
	"testing"

	"moniker/api"
	"moniker/edits"
)

func TestValid(t *testing.T) {
	for _, c := range []struct {
		size int
		l    []api.Edit
		want api.Errno
	}{
		{5, list(edit(0, 2, "x"), edit(3, 5, "")), api.OK},
		{5, list(edit(0, 2, "x"), edit(2, 5, "")), api.ErrOrder},
		{5, list(edit(1, 1, ""), edit(1, 1, "")), api.ErrOrder},
		{5, list(edit(1, 1, ""), edit(2, 2, "")), api.OK},
		{5, list(edit(3, 4, ""), edit(0, 1, "")), api.ErrOrder},
		{5, list(edit(0, 5, ""), edit(2, 3, "")), api.ErrOrder},
		{5, list(edit(4, 6, "")), api.ErrSpan},
		{5, list(edit(5, 6, "")), api.ErrSpan},
		{5, list(edit(6, 6, "")), api.ErrSpan},
		{5, list(edit(3, 2, "")), api.ErrSpan},
		{5, list(edit(-1, 2, "")), api.ErrSpan},
		{5, list(edit(-2, -1, "")), api.ErrSpan},
		{5, list(edit(0, -1, "")), api.ErrSpan},
		{5, list(edit(math.MinInt, math.MaxInt, "")), api.ErrSpan},
		{5, list(edit(math.MaxInt, math.MinInt, "")), api.ErrSpan},
		// Of one edit the span is asked first, of two edits the first one.
		{5, list(edit(3, 4, ""), edit(0, 9, "")), api.ErrSpan},
		{5, list(edit(0, 1, ""), edit(1, 2, ""), edit(9, 9, "")), api.ErrOrder},
		{5, list(edit(0, 1, ""), edit(9, 9, ""), edit(1, 2, "")), api.ErrSpan},
		{0, nil, api.OK},
		{0, list(edit(0, 0, "a")), api.OK},
		{0, list(edit(0, 1, "a")), api.ErrSpan},
		{-1, nil, api.ErrArg},
		{math.MinInt, list(edit(9, 1, "")), api.ErrArg},
		{maxSize, list(edit(maxSize, maxSize, "a")), api.OK},
		{maxSize, list(edit(maxSize, maxSize+1, "a")), api.ErrSpan},
		{maxSize + 1, nil, api.ErrArg},
		{math.MaxInt, nil, api.ErrArg},
	} {
		if got := edits.Valid(c.size, c.l); got != c.want {
			t.Errorf("1.1: Valid(%d, %s) = %d, want %d", c.size, show(c.l), got, c.want)
		}
	}
}

func TestValidCounts(t *testing.T) {
	full := insertions(api.MaxEdits, 0, "")
	over := append(insertions(api.MaxEdits, 0, ""), edit(9, 1, ""))
	size := 2*api.MaxEdits - 2
	if got := edits.Valid(size, full); got != api.OK {
		t.Errorf("1.1: MaxEdits edits: %d", got)
	}
	if got := edits.Valid(size-1, full); got != api.ErrSpan {
		t.Errorf("1.1: MaxEdits edits, the last beyond the text: %d", got)
	}
	if got := edits.Valid(size, over); got != api.ErrMany {
		t.Errorf("1.1: one more: %d", got)
	}
	if got := edits.Valid(-1, over); got != api.ErrArg {
		t.Errorf("1.1: the size is asked ahead of the number: %d", got)
	}
}

func TestApply(t *testing.T) {
	for _, c := range []struct {
		text string
		l    []api.Edit
		want string
		why  api.Errno
	}{
		{"abcde", list(edit(0, 1, "XY"), edit(3, 3, "-")), "XYbc-de", api.OK},
		{"abcde", list(edit(0, 5, "")), "", api.OK},
		{"abcde", list(edit(5, 5, "\xff")), "abcde\xff", api.OK},
		{"abcde", nil, "abcde", api.OK},
		{"", list(edit(0, 0, "new")), "new", api.OK},
		{"ab", list(edit(0, 1, "XY"), edit(3, 3, "-")), "", api.ErrSpan},
		{"ab", list(edit(0, 1, "XY"), edit(1, 2, "-")), "", api.ErrOrder},
		{"ab", make([]api.Edit, api.MaxEdits+1), "", api.ErrMany},
	} {
		if got, why := edits.Apply(c.text, c.l); got != c.want || why != c.why {
			t.Errorf("1.2: Apply(%q, %.80s) = %q, %d, want %q, %d", c.text, show(c.l), got, why, c.want, c.why)
		}
	}
}

// TestApplyByBytes does the edits one by one from the last to the first, so that the places ahead stay as they are.
func TestApplyByBytes(t *testing.T) {
	const text = "pqrs"
	for _, l := range allLists(len(text), "", "x", "pq") {
		want := text
		for _, e := range slices.Backward(l) {
			want = want[:e.From] + e.Text + want[e.To:]
		}
		if got, why := edits.Apply(text, l); got != want || why != api.OK {
			t.Fatalf("1.2: Apply(%q, %s) = %q, %d, want %q", text, show(l), got, why, want)
		}
	}
}

func TestInvert(t *testing.T) {
	got, why := edits.Invert("abcde", list(edit(0, 1, "XY"), edit(3, 3, "-")))
	sameList(t, "1.3: Invert", must(t, got, why), list(edit(0, 2, "a"), edit(4, 5, "")))
	for _, c := range []struct {
		l   []api.Edit
		why api.Errno
	}{
		{list(edit(0, 6, "")), api.ErrSpan},
		{list(edit(0, 1, ""), edit(1, 1, "")), api.ErrOrder},
		{make([]api.Edit, api.MaxEdits+1), api.ErrMany},
	} {
		if got, why := edits.Invert("abcde", c.l); len(got) != 0 || why != c.why {
			t.Errorf("1.3: %d edits, %d, want %d", len(got), why, c.why)
		}
	}
}

func TestInvertTakesBack(t *testing.T) {
	const text = "pqrs"
	for _, l := range allLists(len(text), "", "x", "pq") {
		after, why := edits.Apply(text, l)
		must(t, after, why)
		back, why := edits.Invert(text, l)
		must(t, back, why)
		if why := edits.Valid(len(after), back); why != api.OK {
			t.Fatalf("1.11: the inverse of %s is not valid: %d", show(l), why)
		}
		if again, _ := edits.Apply(after, back); again != text {
			t.Fatalf("1.11: %s taken back gives %q", show(l), again)
		}
		forth, why := edits.Invert(after, back)
		sameList(t, "1.11: inverted twice", must(t, forth, why), l)
	}
}

func TestShift(t *testing.T) {
	two, one := list(edit(0, 1, "XY"), edit(3, 3, "-")), list(edit(1, 4, "z"))
	for _, c := range []struct {
		l    []api.Edit
		at   int
		want int
		ok   bool
	}{
		{two, 0, 0, true}, {two, 1, 2, true}, {two, 2, 3, true}, {two, 3, 5, true}, {two, 5, 7, true},
		{one, 1, 1, true}, {one, 2, 0, false}, {one, 3, 0, false}, {one, 4, 2, true}, {one, -1, 0, false},
		{one, maxSize, maxSize - 2, true}, {one, maxSize + 1, 0, false},
		{one, math.MinInt, 0, false}, {one, math.MaxInt, 0, false},
		{nil, 7, 7, true}, {nil, 0, 0, true},
		{list(edit(maxSize, maxSize, "abc")), maxSize, maxSize + 3, true},
		{list(edit(maxSize, maxSize+1, "")), 0, 0, false},
		{list(edit(0, 0, ""), edit(0, 0, "")), 0, 0, false},
		{insertions(api.MaxEdits, 0, "a"), 2*api.MaxEdits - 2, 3*api.MaxEdits - 2, true},
		{insertions(api.MaxEdits+1, 0, "a"), 0, 0, false},
	} {
		if got, ok := edits.Shift(c.l, c.at); got != c.want || ok != c.ok {
			t.Errorf("1.4: Shift(%.80s, %d) = %d, %v, want %d, %v", show(c.l), c.at, got, ok, c.want, c.ok)
		}
	}
}

func TestShiftFollowsKeptBytes(t *testing.T) {
	const text = "pqrst"
	for _, l := range allLists(len(text), "", "x", "yz") {
		after, why := edits.Apply(text, l)
		must(t, after, why)
		last := 0
		for at := range len(text) + 1 {
			got, ok := edits.Shift(l, at)
			kept := keptBeside(l, at)
			if !ok && (kept.ahead && at > 0 || kept.behind && at < len(text)) {
				t.Fatalf("1.15: Shift(%s, %d) is false beside a kept byte", show(l), at)
			}
			if !ok {
				continue
			}
			if got < last {
				t.Fatalf("1.15: Shift(%s, %d) = %d falls", show(l), at, got)
			}
			last = got
			if at < len(text) && kept.behind && after[got] != text[at] {
				t.Fatalf("1.15: Shift(%s, %d) = %d, another byte stands there", show(l), at, got)
			}
		}
	}
}

// keptBeside tells whether the bytes ahead of a place and behind it lie in no stretch.
func keptBeside(l []api.Edit, at int) (kept struct{ ahead, behind bool }) {
	kept.ahead, kept.behind = true, true
	for _, e := range l {
		if e.From < at && at <= e.To {
			kept.ahead = false
		}
		if e.From <= at && at < e.To {
			kept.behind = false
		}
	}
	return kept
}

func TestNormal(t *testing.T) {
	for _, c := range []struct {
		text    string
		l, want []api.Edit
		why     api.Errno
	}{
		{"abcabc", list(edit(0, 3, "abxc"), edit(4, 6, "bc")), list(edit(2, 2, "x")), api.OK},
		{"aaa", list(edit(0, 3, "aa")), list(edit(2, 3, "")), api.OK},
		{"aa", list(edit(0, 2, "aaa")), list(edit(2, 2, "a")), api.OK},
		{"ab", list(edit(0, 2, "ab")), nil, api.OK},
		{"ab", list(edit(1, 1, "")), nil, api.OK},
		{"abc", list(edit(0, 3, "xbc")), list(edit(0, 1, "x")), api.OK},
		{"abc", list(edit(0, 3, "cba")), list(edit(0, 3, "cba")), api.OK},
		{"ab", list(edit(0, 3, "ab")), nil, api.ErrSpan},
		{"ab", list(edit(0, 1, "a"), edit(1, 2, "b")), nil, api.ErrOrder},
		{"ab", make([]api.Edit, api.MaxEdits+1), nil, api.ErrMany},
	} {
		got, why := edits.Normal(c.text, c.l)
		if !slices.Equal(got, c.want) || why != c.why {
			t.Errorf("1.6: Normal(%q, %.80s) = %s, %d, want %s, %d", c.text, show(c.l), show(got), why, show(c.want), c.why)
		}
	}
}

func TestNormalDoesTheSame(t *testing.T) {
	r := rand.New(rand.NewPCG(1, 6))
	for range 5000 {
		text := someText(r, r.IntN(12))
		l := someList(r, len(text))
		after, why := edits.Apply(text, l)
		must(t, after, why)
		got, why := edits.Normal(text, l)
		must(t, got, why)
		if again, why := edits.Apply(text, got); again != after || why != api.OK || len(got) > len(l) {
			t.Fatalf("1.13: Normal(%q, %s) = %s does something else", text, show(l), show(got))
		}
		for _, e := range got {
			was := text[e.From:e.To]
			if was == "" && e.Text == "" {
				t.Fatalf("1.13: Normal(%q, %s) = %s has one that does nothing", text, show(l), show(got))
			}
			if was != "" && e.Text != "" && (was[0] == e.Text[0] || was[len(was)-1] == e.Text[len(e.Text)-1]) {
				t.Fatalf("1.13: Normal(%q, %s) = %s begins or ends alike", text, show(l), show(got))
			}
		}
		twice, why := edits.Normal(text, got)
		sameList(t, "1.13: normal twice", must(t, twice, why), got)
	}
}
