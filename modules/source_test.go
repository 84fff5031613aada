package modules_test

import (
	"reflect"
	"slices"
	"sync"
	"testing"
	"unsafe"

	"moniker/api"
	"moniker/modules"
)

// TestLoadBy: whatever is known of the texts, the program is Load's, or the fault is.
func TestLoadBy(t *testing.T) {
	r := chance(70)
	taken := 0
	for range 400 {
		given := someFiles(r)
		sources := map[string]*modules.Source{}
		for _, f := range given {
			switch r.IntN(4) {
			case 0: // nothing is known
			case 1:
				sources[f.Text] = modules.Read(f.Text + " ") // of another text
			default:
				sources[f.Text] = modules.Read(f.Text)
			}
		}
		want, fault := modules.Load(given)
		for range 2 { // the same Sources twice
			p, f := modules.LoadBy(given, func(text string) *modules.Source { return sources[text] })
			if f != fault || !reflect.DeepEqual(story(p), story(want)) {
				t.Fatalf("M1: %q: %v, not %v", given, f, fault)
			}
		}
		if fault.Why == api.OK {
			taken++
		}
	}
	if taken < 100 {
		t.Errorf("few: %d", taken)
	}
}

// TestSharedSources: programs that share what was read are made and asked at once, and written into what they answer.
func TestSharedSources(t *testing.T) {
	sources := map[string]*modules.Source{}
	for _, f := range source() {
		sources[f.Text] = modules.Read(f.Text)
	}
	var wait sync.WaitGroup
	for range 4 {
		wait.Go(func() {
			for range 20 {
				p, _ := modules.LoadBy(source(), func(text string) *modules.Source { return sources[text] })
				if !sameStory(p, source()) {
					t.Error("P5: another story")
				}
				for i := range source() {
					clear(p.Tokens(i))
					clear(p.Tree(i).Nodes)
				}
			}
		})
	}
	wait.Wait()
}

// TestSourceNotKept: P4: the bytes of a text are written over behind Read.
func TestSourceNotKept(t *testing.T) {
	bytes := []byte(source()[0].Text)
	s := modules.Read(unsafe.String(&bytes[0], len(bytes)))
	for i := range bytes {
		bytes[i] = '#'
	}
	p, _ := modules.LoadBy(source(), func(text string) *modules.Source {
		if text == source()[0].Text {
			return s
		}
		return nil
	})
	if s.Text() != source()[0].Text || !sameStory(p, source()) {
		t.Error("P4: the Source changed with the text")
	}
	if s = nil; s.Text() != "" {
		t.Error("P1: a nil Source")
	}
}

// TestListed: the faults that hang on no text are Load's; of others nothing is told.
func TestListed(t *testing.T) {
	base := files("a: package main")
	told := []api.Errno{api.ErrArg, api.ErrMany, api.ErrTwice}
	for _, given := range append(ills(), nil, base) {
		for _, l := range [][]api.File{given, slices.Concat(base, given), slices.Concat(given, given)} {
			want := api.Fault{}
			if _, f := modules.Load(l); slices.Contains(told, f.Why) {
				want = f
			}
			if got := modules.Listed(l); got != want {
				t.Errorf("M7: %.200q: %v, not %v", l, got, want)
			}
		}
	}
	if got := modules.Listed([]api.File{sized("a", api.MaxPieces+1)}); got != (api.Fault{}) {
		t.Errorf("M7: %v", got)
	}
}
