package build_test

import (
	"slices"
	"testing"

	"moniker/api"
	"moniker/build"
)

var (
	fileA = api.File{Name: "main.go", Text: "package main; func main() { }"}
	fileB = api.File{Name: "x/b.go", Text: "package x"}
)

// TestExamples: each row of the chapter's examples, in their order, on one builder.
func TestExamples(t *testing.T) {
	none, a, b := api.Fault{}, []api.File{fileA}, []api.File{fileB}
	for _, n := range []int{0, 17} {
		if x, e := build.New(n); x != nil || e != api.ErrArg {
			t.Errorf("example 1: New(%d): %v, %d", n, x, e)
		}
	}
	x := builder(t, 16)
	counts(t, x, build.Stats{})

	opens(t, x, a, none, build.Stats{Read: 1})
	opens(t, x, a, none, build.Stats{Read: 1, Whole: 1})
	opens(t, x, slices.Concat(a, b), none, build.Stats{Read: 2, Kept: 1, Whole: 1})
	opens(t, x, slices.Concat(b, a), none, build.Stats{Read: 2, Kept: 3, Whole: 1})
	opens(t, x, a, none, build.Stats{Read: 2, Kept: 4, Whole: 1})

	opens(t, x, nil, api.Fault{Why: api.ErrArg}, build.Stats{Read: 2, Kept: 4, Whole: 1})
	opens(t, x, slices.Concat(a, a), api.Fault{Why: api.ErrTwice, File: 1}, build.Stats{Read: 2, Kept: 4, Whole: 1})
	opens(t, x, a, none, build.Stats{Read: 2, Kept: 4, Whole: 2})

	x.Drop()
	opens(t, x, a, none, build.Stats{Read: 3, Kept: 4, Whole: 2})

	wrong := []api.File{{Name: "main.go", Text: "package"}}
	opens(t, x, wrong, api.Fault{Why: api.ErrParse, At: 7}, build.Stats{Read: 4, Kept: 4, Whole: 2})
	opens(t, x, wrong, api.Fault{Why: api.ErrParse, At: 7}, build.Stats{Read: 4, Kept: 4, Whole: 3})

	told := x.All(a, []build.Ask{{0, 19, "f"}, {0, 0, "x"}, {9, 0, "x"}})
	if len(told) != 3 {
		t.Fatalf("example 6: %v", told)
	}
	for i, why := range []api.Errno{api.ErrTarget, api.ErrNowhere, api.ErrArg} {
		if told[i].Why != why || len(told[i].Changes) > 0 {
			t.Errorf("example 6: %d: %v", i, told[i])
		}
	}
	counts(t, x, build.Stats{Read: 5, Kept: 4, Whole: 3})
	for i, files := range [][]api.File{a, slices.Concat(a, b)} {
		if told := x.All(files, nil); len(told) > 0 {
			t.Errorf("example 6: %v", told)
		}
		counts(t, x, []build.Stats{{Read: 5, Kept: 4, Whole: 4}, {Read: 6, Kept: 5, Whole: 4}}[i])
	}

	two := files("main: package main; func main() {}", "x/a: package x // two", "x/b: package x // two")
	opens(t, x, two, none, build.Stats{Read: 9, Kept: 5, Whole: 4})
}
