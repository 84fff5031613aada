package xref_test

import (
	"testing"

	"moniker/api"
	"moniker/modules"
	"moniker/xref"
)

// TestOpenBy: what is known of texts changes no answer and no fault.
func TestOpenBy(t *testing.T) {
	r := chance(60)
	for range 20 {
		given := someFiles(r)
		if r.IntN(3) == 0 {
			given[r.IntN(len(given))].Text += pick(r, " #", "\nfunc", "\nvar v zz", "\nvar w int = \"\"", "\n func _() { var u int }")
		}
		sources := map[string]*modules.Source{}
		for _, f := range given {
			if r.IntN(3) > 0 {
				sources[f.Text] = modules.Read(f.Text)
			}
		}
		want, fault := xref.Open(given)
		w, f := xref.OpenBy(given, func(text string) *modules.Source { return sources[text] })
		if f != fault || (w == nil) != (want == nil) {
			t.Fatalf("13.1: %v, not %v: %.1000q", f, fault, given)
		}
		if w == nil {
			continue
		}
		if e, at := xref.Alike(w, want); e != api.OK || !storyOf(w).same(storyOf(want)) {
			t.Fatalf("13.1: %d at %v: %.1000q", e, at, given)
		}
	}
}
