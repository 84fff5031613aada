package rename_test

import (
	"slices"
	"testing"

	"moniker/api"
	"moniker/rename"
)

const example = "package main; func f(a int) int { b := a; return b }; func main() { print(f(1)) }"

// TestExamples: the chapter's, all of them.
func TestExamples(t *testing.T) {
	given := files("main.go: " + example)
	for _, c := range []struct {
		offset int
		name   string
		want   []int // where the changes begin
		why    api.Errno
	}{
		{21, "c", []int{21, 39}, api.OK},
		{21, "b", nil, api.ErrBroken},
		{21, "f", []int{21, 39}, api.OK},
		{19, "print", nil, api.ErrBound},
		{14, "c", nil, api.ErrNowhere},
		{23, "c", nil, api.ErrTarget},
		{59, "c", nil, api.ErrTarget},
		{21, "main", nil, api.ErrNewName},
		{21, "_", nil, api.ErrNewName},
		{21, "if", nil, api.ErrNewName},
		{21, "a b", nil, api.ErrNewName},
		{21, "", nil, api.ErrNewName},
	} {
		var want []api.Change
		for _, from := range c.want {
			want = append(want, api.Change{Edit: api.Edit{From: from, To: from + 1, Text: c.name}})
		}
		if l, e := rename.Rename(given, 0, c.offset, c.name); e != c.why || !slices.Equal(l, want) {
			t.Errorf("R1: %d to %q: %v, %d, not %v, %d", c.offset, c.name, l, e, want, c.why)
		}
	}
	refuses(t, read("main.go: package main; func f(@a int) int { #b := a; return b }; func main() { print(f(1)) }"), "b", api.ErrBroken)
	refuses(t, read("main.go: package main; func @f(a int) int { b := a; return b }; func main() { #print(f(1)) }"), "print", api.ErrBound)
	refuses(t, read("main.go: package main; @#func f(a int) int { b := a; return b }; func main() { print(f(1)) }"), "c", api.ErrNowhere)
	refuses(t, read("main.go: package main; func f(a @#int) int { b := a; return b }; func main() { print(f(1)) }"), "c", api.ErrTarget)
	refuses(t, read("main.go: package main; func f(a int) int { b := a; return b }; func @#main() { print(f(1)) }"), "c", api.ErrTarget)
	refuses(t, read("main.go: package main; func f(@#a int) int { b := a; return b }; func main() { print(f(1)) }"), "main", api.ErrNewName)
}

// TestApplied: what came of an example's changes, and where the same identifier begins then.
func TestApplied(t *testing.T) {
	given := files("main.go: " + example)
	l, _ := rename.Rename(given, 0, 39, "long")
	now, e := rename.Apply(given, l)
	if e != api.OK || now[0].Text != "package main; func f(long int) int { b := long; return b }; func main() { print(f(1)) }" || now[0].Name != "main.go" {
		t.Errorf("R3: %v, %d", now, e)
	}
	if at := rename.Back(l, 0, 39); at != 42 {
		t.Errorf("R4: %d", at)
	}
	back, e := rename.Rename(now, 0, 42, "a")
	if was, _ := rename.Apply(now, back); e != api.OK || !slices.Equal(was, given) {
		t.Errorf("P15: %v, %d", was, e)
	}
	if name, f := rename.Fresh(given); name != "x0" || f != (api.Fault{}) {
		t.Errorf("R5: %s, %v", name, f)
	}
}
