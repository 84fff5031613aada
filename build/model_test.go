package build_test

import (
	"slices"
	"testing"

	"moniker/api"
	"moniker/build"
	"moniker/modules"
	"moniker/xref"
)

// model counts as the chapter says, without keeping anything but the last files.
type model struct {
	last  []api.File
	stats build.Stats
}

func (m *model) hear(given []api.File) {
	names := map[string]bool{}
	for _, f := range given {
		names[f.Name] = true
	}
	if len(given) == 0 || len(given) > api.MaxFiles || len(names) < len(given) {
		return
	}
	if slices.Equal(given, m.last) {
		m.stats.Whole++
	} else {
		for _, f := range given {
			if slices.ContainsFunc(m.last, func(l api.File) bool { return l.Text == f.Text }) {
				m.stats.Kept++
			} else {
				m.stats.Read++
			}
		}
	}
	m.last = slices.Clone(given)
}

// TestModel: P17, 18.7: whatever was asked before, with every number of workers: each answer is xref's or rename's, the counts are the model's.
func TestModel(t *testing.T) {
	for workers := 1; workers <= api.MaxWork; workers++ {
		t.Run("", func(t *testing.T) {
			t.Parallel()
			r := chance(uint64(100 + workers))
			b, m := builder(t, workers), &model{}
			var given, good []api.File
			accepted, right := 0, 0
			for range 300 {
				given = step(r, given)
				if r.IntN(4) == 0 {
					given = step(r, good)
				}
				switch r.IntN(8) {
				case 0:
					b.Drop()
					m.last = nil
				case 1, 2, 3:
					sameOpen(t, b, given)
					m.hear(given)
				case 4, 5:
					sameRename(t, b, given, someAsk(r, given))
					m.hear(given)
				case 6, 7:
					for _, x := range sameAll(t, b, given, someAsks(r, given, r.IntN(2*workers+3))) {
						if x.Why == api.OK {
							accepted++
						}
					}
					m.hear(given)
				}
				counts(t, b, m.stats)
				if _, f := xref.Open(given); f.Why == api.OK {
					right++
					good = given
				}
			}
			if accepted < 10 || right < 60 || m.stats.Whole < 10 || m.stats.Kept < 200 || m.stats.Read < 100 {
				t.Errorf("few: %d accepted, %d right, %v", accepted, right, m.stats)
			}
		})
	}
}

// TestFollows: 18.8, 18.9.
func TestFollows(t *testing.T) {
	r := chance(3)
	for range 30 {
		given := base()
		for range r.IntN(6) {
			given = step(r, given)
		}
		if modules.Listed(given).Why != api.OK {
			continue
		}
		b := builder(t, 1+r.IntN(api.MaxWork))
		sameOpen(t, b, given)
		sameOpen(t, b, given)
		counts(t, b, build.Stats{Read: len(given), Whole: 1})
		next := slices.Clone(given)
		next[r.IntN(len(next))].Text += "// no file has this"
		sameOpen(t, b, next)
		counts(t, b, build.Stats{Read: len(given) + 1, Kept: len(given) - 1, Whole: 1})
		slices.Reverse(next)
		sameOpen(t, b, next)
		want := build.Stats{Read: len(given) + 1, Kept: 2*len(given) - 1, Whole: 1}
		if len(next) == 1 {
			want = build.Stats{Read: 2, Whole: 2}
		}
		counts(t, b, want)
		if s := b.Stats(); len(next) > 1 && s.Read+s.Kept != 3*len(given) {
			t.Errorf("18.8: %v", s)
		}
	}
}
