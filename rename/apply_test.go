package rename_test

import (
	"math"
	"slices"
	"strings"
	"testing"

	"moniker/api"
	"moniker/edits"
	"moniker/lexer"
	"moniker/rename"
)

// change is a change of a file.
func change(file, from, to int, text string) api.Change {
	return api.Change{File: file, Edit: api.Edit{From: from, To: to, Text: text}}
}

// TestApply: R3: changes in several files, in no order among these; what is refused, and which error is told.
func TestApply(t *testing.T) {
	given := files("m/a: abc", "b: ", "c: defgh")
	for _, c := range []struct {
		l    []api.Change
		want []string
		why  api.Errno
	}{
		{nil, []string{"abc", "", "defgh"}, api.OK},
		{[]api.Change{change(0, 1, 2, "XY")}, []string{"aXYc", "", "defgh"}, api.OK},
		{[]api.Change{change(2, 0, 1, ""), change(0, 0, 1, "z"), change(2, 2, 4, "-"), change(1, 0, 0, "new"), change(0, 3, 3, "!")}, []string{"zbc!", "new", "e-h"}, api.OK},
		{[]api.Change{change(0, 0, 3, "abc")}, []string{"abc", "", "defgh"}, api.OK},
		// out of order, touching, meeting, twice
		{[]api.Change{change(0, 2, 3, ""), change(0, 0, 1, "")}, nil, api.ErrOrder},
		{[]api.Change{change(0, 0, 1, ""), change(0, 1, 2, "")}, nil, api.ErrOrder},
		{[]api.Change{change(2, 0, 3, ""), change(0, 0, 1, ""), change(2, 1, 4, "")}, nil, api.ErrOrder},
		{[]api.Change{change(1, 0, 0, "a"), change(1, 0, 0, "a")}, nil, api.ErrOrder},
		// stretches that are none
		{[]api.Change{change(0, 0, 4, "")}, nil, api.ErrSpan},
		{[]api.Change{change(0, -1, 1, "")}, nil, api.ErrSpan},
		{[]api.Change{change(0, 2, 1, "")}, nil, api.ErrSpan},
		{[]api.Change{change(1, 0, 1, "")}, nil, api.ErrSpan},
		{[]api.Change{change(2, math.MinInt, math.MaxInt, "")}, nil, api.ErrSpan},
		{[]api.Change{change(2, math.MaxInt, math.MinInt, "")}, nil, api.ErrSpan},
		// no file's number, ahead of all else
		{[]api.Change{change(3, 0, 0, "")}, nil, api.ErrArg},
		{[]api.Change{change(-1, 0, 0, "")}, nil, api.ErrArg},
		{[]api.Change{change(math.MaxInt, 0, 0, "")}, nil, api.ErrArg},
		{[]api.Change{change(0, 0, 4, ""), change(0, 9, 1, ""), change(math.MinInt, 0, 0, "")}, nil, api.ErrArg},
		// the first error by file, not by change
		{[]api.Change{change(2, 0, 9, ""), change(0, 2, 3, ""), change(0, 0, 1, "")}, nil, api.ErrOrder},
		{[]api.Change{change(2, 2, 3, ""), change(2, 0, 1, ""), change(1, 1, 1, "")}, nil, api.ErrSpan},
		// MaxEdits
		{slices.Repeat([]api.Change{change(2, 9, 9, "")}, api.MaxEdits+1), nil, api.ErrMany},
		{append(slices.Repeat([]api.Change{change(2, 9, 9, "")}, api.MaxEdits+1), change(1, 1, 1, "")), nil, api.ErrSpan},
	} {
		kept, l := roomy(given, api.File{Name: "spare"}), roomy(c.l, change(-7, 0, 0, ""))
		got, e := rename.Apply(kept, l)
		var texts []string
		for i, f := range got {
			texts = append(texts, f.Text)
			if f.Name != given[i].Name {
				t.Errorf("R3: %v", f)
			}
		}
		if e != c.why || !slices.Equal(texts, c.want) {
			t.Errorf("R3: %.200v: %q, %d, not %q, %d", c.l, texts, e, c.want, c.why)
		}
		if !slices.Equal(kept, given) || kept[:cap(kept)][len(kept)].Name != "spare" || !slices.Equal(l, c.l) || l[:cap(l)][len(l)].File != -7 {
			t.Errorf("P4: %.200v", c.l)
		}
	}
	if got, e := rename.Apply(nil, nil); e != api.OK || len(got) > 0 {
		t.Errorf("R3: of none: %v, %d", got, e)
	}
	if got, e := rename.Apply(nil, []api.Change{{}}); e != api.ErrArg || len(got) > 0 {
		t.Errorf("R3: of none: %v, %d", got, e)
	}
}

// TestApplyAny: R3: files and changes by chance, held against edits.Apply file by file; files may have a name twice, and be more than MaxFiles.
func TestApplyAny(t *testing.T) {
	r := chance(4)
	met := map[api.Errno]int{}
	for range 3000 {
		var given []api.File
		for range pick(r, 0, 1, 2, 3, api.MaxFiles+2) {
			given = append(given, api.File{Name: pick(r, "a", "b"), Text: strings.Repeat("ab\xff", r.IntN(5))})
		}
		var l []api.Change
		at := 0
		for range r.IntN(6) {
			from := at + r.IntN(3)
			at = from + r.IntN(3)
			l = append(l, change(pick(r, 0, 0, 1, r.IntN(len(given)+1)), from, at, pick(r, "", "x", "long")))
			at += pick(r, 1, 1, 1, -3)
		}
		want, why := make([]api.File, len(given)), api.OK
		for i, f := range given {
			var mine []api.Edit
			for _, c := range l {
				if c.File == i {
					mine = append(mine, c.Edit)
				}
			}
			text, e := edits.Apply(f.Text, mine)
			if want[i] = (api.File{Name: f.Name, Text: text}); why == api.OK {
				why = e
			}
		}
		if slices.ContainsFunc(l, func(c api.Change) bool { return c.File >= len(given) }) {
			why = api.ErrArg
		}
		if why != api.OK {
			want = nil
		}
		if got, e := rename.Apply(given, l); e != why || !slices.Equal(got, want) {
			t.Fatalf("R3: %q, %v: %q, %d, not %q, %d", given, l, got, e, want, why)
		}
		met[why]++
	}
	if len(met) < 4 {
		t.Errorf("few errors: %v", met)
	}
}

// TestBack: R4: places ahead of, within and behind changes; the greatest and least numbers.
func TestBack(t *testing.T) {
	l := []api.Change{change(0, 2, 3, "long"), change(0, 6, 8, "q"), change(1, 0, 1, "xyz"), change(0, 10, 10, "in"), change(0, 12, 14, "")}
	for _, c := range []struct{ file, offset, want int }{
		{0, 0, 0}, {0, 1, 1}, {0, 2, 2}, {0, 3, 6}, {0, 5, 8}, {0, 6, 9}, {0, 7, 9}, {0, 8, 10}, {0, 9, 11}, {0, 10, 12}, {0, 11, 15}, {0, 12, 16}, {0, 13, 16}, {0, 14, 16}, {0, 99, 101},
		{1, 0, 0}, {1, 1, 3}, {1, 5, 7}, {2, 7, 7}, {-1, 7, 7}, {0, -1, -1}, {0, -5, -5}, {math.MaxInt, 3, 3}, {math.MinInt, 3, 3},
		{0, math.MinInt, math.MinInt}, {0, math.MaxInt, math.MinInt + 1}, {1, math.MaxInt - 2, math.MaxInt},
	} {
		if got := rename.Back(l, c.file, c.offset); got != c.want {
			t.Errorf("R4: %d, %d: %d, not %d", c.file, c.offset, got, c.want)
		}
	}
	for _, c := range []struct {
		l            []api.Change
		offset, want int
	}{
		{nil, 5, 5},
		{[]api.Change{change(-3, 2, 3, "long")}, 2, 2},                    // of another file
		{[]api.Change{change(0, 4, 4, "in")}, 4, 4},                       // an insertion there
		{[]api.Change{change(0, 4, 4, "in")}, 5, 7},                       // one ahead
		{[]api.Change{change(0, 4, 2, "in")}, 5, 9},                       // backwards
		{[]api.Change{change(0, 4, 2, "in")}, 3, 3},                       // backwards, around
		{[]api.Change{change(0, 1, 9, "in"), change(0, 3, 9, "")}, 5, -1}, // each by itself
		{[]api.Change{change(0, 7, 9, ""), change(0, 1, 2, "abc")}, 8, 9}, // in no order
		{[]api.Change{change(0, 1, 2, "abc"), change(0, 1, 2, "")}, 3, 4}, // twice
		{[]api.Change{change(0, -4, -2, "abc")}, 3, 4},                    // ahead of the text
		{[]api.Change{change(0, math.MinInt, math.MaxInt, "")}, 3, math.MinInt},
		{[]api.Change{change(0, math.MinInt, 0, "abc")}, 3, math.MinInt + 6},
		{[]api.Change{change(0, 0, math.MaxInt, "")}, math.MaxInt, 0},
		{[]api.Change{change(0, math.MinInt, math.MinInt, "abc")}, math.MinInt, math.MinInt},
	} {
		if got := rename.Back(c.l, 0, c.offset); got != c.want {
			t.Errorf("R4: %v, %d: %d, not %d", c.l, c.offset, got, c.want)
		}
	}
	kept := roomy(l, change(9, 9, 9, "9"))
	rename.Back(kept, 0, 7)
	if !slices.Equal(kept, l) || kept[:cap(kept)][len(kept)] != change(9, 9, 9, "9") {
		t.Errorf("P4: %v", kept[:cap(kept)])
	}
}

// TestBackAny: R4's words, with any numbers.
func TestBackAny(t *testing.T) {
	r := chance(5)
	some := func() int {
		return pick(r, r.IntN(12), r.IntN(12), -r.IntN(5), math.MaxInt-r.IntN(2), math.MinInt+r.IntN(2))
	}
	for range 20000 {
		var l []api.Change
		for range r.IntN(5) {
			l = append(l, change(pick(r, 0, 0, 1, -1), some(), some(), strings.Repeat("x", r.IntN(4))))
		}
		file, offset := pick(r, 0, 0, 1, -1), some()
		want := offset
		for _, c := range l {
			holds := c.Edit.From <= offset && c.Edit.To > offset
			if c.File == file && holds {
				want -= offset - c.Edit.From
			}
			if c.File == file && !holds && c.Edit.From < offset {
				want += len(c.Edit.Text) - (c.Edit.To - c.Edit.From)
			}
		}
		if got := rename.Back(l, file, offset); got != want {
			t.Fatalf("R4: %v, %d, %d: %d, not %d", l, file, offset, got, want)
		}
	}
}

// TestBackLeads: R4: behind a rename each token is found: one that was changed where it begins, every other byte where it stands now.
func TestBackLeads(t *testing.T) {
	r := chance(6)
	for range 10 {
		given := someFiles(r, 5)
		w := opened(t, given)
		for range 10 {
			file, offset, _ := someAsk(r, w)
			name := pick(r, "n", "Fresh", strings.Repeat("N", 30))
			l, e := rename.Rename(given, file, offset, name)
			if e != api.OK {
				continue
			}
			now, _ := rename.Apply(given, l)
			for i := range given {
				olds, _ := lexer.Scan(given[i].Text)
				news, _ := lexer.Scan(now[i].Text)
				for n, p := range olds {
					for at := p.From; at < p.To; at++ {
						want := news[n].From + at - p.From
						if slices.ContainsFunc(l, func(c api.Change) bool { return c.File == i && c.Edit.From == p.From }) {
							want = news[n].From
						}
						if got := rename.Back(l, i, at); got != want {
							t.Fatalf("R4: %d in %d: %d, not %d", at, i, got, want)
						}
					}
				}
			}
		}
	}
}
