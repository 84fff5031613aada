package build_test

import (
	"runtime"
	"slices"
	"sync"
	"testing"
	"time"
	"unsafe"

	"moniker/api"
	"moniker/build"
	"moniker/rename"
	"moniker/xref"
)

// TestNewMemory: P4: what is handed in stays as it is, its spare room too; answers are written over, and asked again.
func TestNewMemory(t *testing.T) {
	r := chance(4)
	for range 20 {
		b := builder(t, 1+r.IntN(api.MaxWork))
		given := roomy(base(), api.File{Name: "spare"})
		asks := roomy(someAsks(r, given, 12), build.Ask{Name: "spare"})
		before, asked := slices.Clone(given[:cap(given)]), slices.Clone(asks[:cap(asks)])
		told := sameAll(t, b, given, asks)
		sameRename(t, b, given, asks[0])
		sameOpen(t, b, given)
		if !slices.Equal(before, given[:cap(given)]) || !slices.Equal(asked, asks[:cap(asks)]) {
			t.Fatal("P4: what was handed in was changed")
		}
		for i := range told {
			if l := told[i].Changes; len(l) > 0 {
				spoil(l, api.Change{File: -1, Edit: api.Edit{Text: "spoilt"}})
				for k := range told {
					if k != i && slices.ContainsFunc(told[k].Changes, func(c api.Change) bool { return c.File == -1 }) {
						t.Fatal("P4: two lists of one answer share memory")
					}
				}
				spoil(l, api.Change{})
			}
		}
		spoil(told, build.Told{Why: -1})
		sameAll(t, b, given, asks)
		l, _ := b.Rename(given, 1, 16, "U")
		spoil(l, api.Change{File: -1})
		sameRename(t, b, given, build.Ask{File: 1, Offset: 16, Name: "U"})
	}
}

// TestNotKept: P4, 18.6: the files of a call are written over behind it, even their bytes; the next call is held against what they were.
func TestNotKept(t *testing.T) {
	b := builder(t, 3)
	given := base()
	var bytes [][]byte
	for i, f := range given {
		name, text := []byte(f.Name), []byte(f.Text)
		given[i] = api.File{Name: unsafe.String(&name[0], len(name)), Text: unsafe.String(&text[0], len(text))}
		bytes = append(bytes, name, text)
	}
	w, _ := b.Open(given)
	for _, l := range bytes {
		spoil(l, '#')
	}
	spoil(given, api.File{Name: "x"})
	if want, _ := xref.Open(base()); story(w) != story(want) {
		t.Error("P4: the whole changed with the files")
	}
	sameOpen(t, b, base())
	counts(t, b, build.Stats{Read: 3, Whole: 1})
	sameOpen(t, b, base()[:1])
	counts(t, b, build.Stats{Read: 3, Kept: 1, Whole: 1})
}

// TestWholes: P5: a whole tells the same behind later calls, Drop, and what it was asked.
func TestWholes(t *testing.T) {
	r := chance(5)
	b := builder(t, 4)
	w, _ := b.Open(base())
	was := story(w)
	given := base()
	for range 40 {
		given = step(r, given)
		b.Open(given)
		b.All(given, someAsks(r, given, 5))
		if r.IntN(8) == 0 {
			b.Drop()
		}
	}
	if story(w) != was {
		t.Error("P5: another story")
	}
}

// TestTurns: two builders, in turns: neither's counts or answers hang on the other.
func TestTurns(t *testing.T) {
	r := chance(6)
	one, two := builder(t, 2), builder(t, 9)
	first, second := &model{}, &model{}
	a, c := base(), base()
	for range 60 {
		a, c = step(r, a), step(r, c)
		sameOpen(t, one, a)
		first.hear(a)
		sameAll(t, two, c, someAsks(r, c, 4))
		second.hear(c)
		counts(t, one, first.stats)
		counts(t, two, second.stats)
	}
}

// TestTogether: builders that are asked at the same time, the same files among them.
func TestTogether(t *testing.T) {
	asks := someAsks(chance(7), base(), 30)
	want := builder(t, 1).All(base(), asks)
	shared := base()
	var group sync.WaitGroup
	for n := range 8 {
		group.Go(func() {
			r := chance(uint64(n / 2)) // each twice
			b := builder(t, n+1)
			m := &model{}
			given := base()
			for range 15 {
				given = step(r, given)
				b.Open(given)
				m.hear(given)
				told := b.All(shared, asks)
				m.hear(shared)
				same := func(a, b build.Told) bool { return a.Why == b.Why && slices.Equal(a.Changes, b.Changes) }
				if !slices.EqualFunc(told, want, same) || b.Stats() != m.stats {
					t.Errorf("18.6, P5: %v, not %v", b.Stats(), m.stats)
				}
			}
		})
	}
	group.Wait()
}

// TestSharedWhole: P5: a whole of a builder is asked by several while the builder asks it too.
func TestSharedWhole(t *testing.T) {
	b := builder(t, 8)
	w, _ := b.Open(base())
	want := story(w)
	asks := someAsks(chance(8), base(), 40)
	var group sync.WaitGroup
	for range 3 {
		group.Go(func() {
			for range 10 {
				if story(w) != want {
					t.Error("P5: another story")
				}
			}
		})
	}
	for range 5 {
		sameAll(t, b, base(), asks)
	}
	group.Wait()
}

// TestEnded: when a call answers, its goroutines have ended: the runtime gives them back at once, or nearly so.
func TestEnded(t *testing.T) {
	b := builder(t, api.MaxWork)
	before := runtime.NumGoroutine()
	for _, given := range [][]api.File{base(), base(), nil, files("a: #", "b: package"), append(base(), base()...)} {
		b.Open(given)
		b.Rename(given, 0, 0, "x")
		b.All(given, someAsks(chance(9), base(), 40))
		b.All(given, nil)
		b.Drop()
		for n := 0; runtime.NumGoroutine() > before; n++ {
			if n == 1000 {
				t.Fatalf("18.6: %d goroutines, not %d", runtime.NumGoroutine(), before)
			}
			time.Sleep(time.Millisecond)
		}
	}
}

// TestRenamed: one program that is renamed again and again through a builder: what it answers is rename's, of each state.
func TestRenamed(t *testing.T) {
	r := chance(10)
	b := builder(t, 6)
	given, done := base(), 0
	for range 150 {
		a := someAsk(r, given)
		sameRename(t, b, given, a)
		if l, e := b.Rename(given, a.File, a.Offset, a.Name); e == api.OK {
			given, _ = rename.Apply(given, l)
			done++
		}
	}
	if done < 20 {
		t.Errorf("few: %d", done)
	}
}
