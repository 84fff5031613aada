package rename_test

import (
	"math/rand/v2"
	"slices"
	"testing"

	"moniker/api"
	"moniker/rename"
)

// answer is all that the package tells of a rename.
type answer struct {
	l       []api.Change
	e       api.Errno
	c       api.Clash
	refused bool
	now     []api.File
	fresh   string
	fault   api.Fault
}

func answerOf(given []api.File, file, offset int, name string) answer {
	var a answer
	a.l, a.e = rename.Rename(given, file, offset, name)
	a.c, a.refused = rename.Explain(given, file, offset, name)
	a.now, _ = rename.Apply(given, a.l)
	a.fresh, a.fault = rename.Fresh(given)
	return a
}

func (a answer) same(b answer) bool {
	return slices.Equal(a.l, b.l) && a.e == b.e && a.c == b.c && a.refused == b.refused && slices.Equal(a.now, b.now) && a.fresh == b.fresh && a.fault == b.fault
}

// TestNewMemory: P4, P5: what was told is written over, and asked again; what was handed in stays as it is, its spare room too, and may be written over then.
func TestNewMemory(t *testing.T) {
	r := chance(8)
	for range 6 {
		given := someFiles(r, 4)
		w := opened(t, given)
		for range 8 {
			file, offset, name := someAsk(r, w)
			first := answerOf(given, file, offset, name)
			kept := roomy(given, api.File{Name: "spare"})
			a := answerOf(kept, file, offset, name)
			if !a.same(first) || !slices.Equal(kept, given) || kept[:cap(kept)][len(kept)].Name != "spare" {
				t.Fatalf("P4: %v", a)
			}
			spoil(kept, api.File{Name: "x", Text: "y"})
			if !a.same(first) {
				t.Fatal("P4: an answer shares memory with the files")
			}
			was := slices.Clone(a.l)
			spoil(a.now, api.File{})
			if !slices.Equal(a.l, was) {
				t.Fatal("P4: the new files share memory with the changes")
			}
			spoil(a.l, api.Change{File: -1})
			if again := answerOf(given, file, offset, name); !again.same(first) {
				t.Fatalf("P5: %v, not %v", again, first)
			}
		}
	}
}

// TestTogether: P5: several that ask at once.
func TestTogether(t *testing.T) {
	r := chance(9)
	given := someFiles(r, 6)
	w := opened(t, given)
	for range 4 {
		file, offset, name := someAsk(r, w)
		want := answerOf(given, file, offset, name)
		done := make(chan bool)
		for range 8 {
			go func() { done <- answerOf(given, file, offset, name).same(want) }()
		}
		for range 8 {
			if !<-done {
				t.Error("P5: other answers")
			}
		}
	}
}

// TestOrder: the same files in another order: the same refusal, or the same changes file by file.
func TestOrder(t *testing.T) {
	t.Parallel()
	r := chance(10)
	met := map[api.Errno]int{}
	for range 16 {
		given := someFiles(r, 3+r.IntN(5))
		w := opened(t, given)
		for range 15 {
			file, offset, name := someAsk(r, w)
			met[inOrder(t, r, given, file, offset, name)]++
		}
	}
	if met[api.OK] < 50 || met[api.ErrBroken] < 10 {
		t.Errorf("few: %v", met)
	}
}

func inOrder(t *testing.T, r *rand.Rand, given []api.File, file, offset int, name string) api.Errno {
	t.Helper()
	l, e := rename.Rename(given, file, offset, name)
	order := r.Perm(len(given)) // which file stands at each place
	var others []api.File
	for _, i := range order {
		others = append(others, given[i])
	}
	got, why := rename.Rename(others, slices.Index(order, file), offset, name)
	for i := range got {
		got[i].File = order[got[i].File]
	}
	slices.SortStableFunc(got, func(a, b api.Change) int { return a.File - b.File })
	if e != why || !slices.Equal(got, l) {
		t.Fatalf("P5: %d, %d to %s: %v, %d, not %v, %d: %v: %.5000q", file, offset, name, got, why, l, e, order, given)
	}
	return e
}
