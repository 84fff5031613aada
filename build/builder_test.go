package build_test

import (
	"fmt"
	"math"
	"slices"
	"strings"
	"testing"

	"moniker/api"
	"moniker/build"
	"moniker/lexer"
	"moniker/xref"
)

func TestNew(t *testing.T) {
	for _, n := range []int{math.MinInt, -1, 0, api.MaxWork + 1, math.MaxInt} {
		if b, e := build.New(n); b != nil || e != api.ErrArg {
			t.Errorf("18.1: New(%d): %v, %d", n, b, e)
		}
	}
	for n := 1; n <= api.MaxWork; n++ {
		counts(t, builder(t, n), build.Stats{})
	}
}

// TestNil: methods of no builder.
func TestNil(t *testing.T) {
	var b *build.Builder
	if w, f := b.Open(base()); w != nil || f != (api.Fault{}) {
		t.Errorf("18.6: Open: %v", f)
	}
	if w, f := b.Open(nil); w != nil || f != (api.Fault{}) {
		t.Errorf("18.6: Open: %v", f)
	}
	if l, e := b.Rename(base(), 9, -1, ""); len(l) > 0 || e != api.OK {
		t.Errorf("18.6: Rename: %v, %d", l, e)
	}
	if told := b.All(base(), make([]build.Ask, 3)); len(told) > 0 {
		t.Errorf("18.6: All: %v", told)
	}
	b.Drop()
	counts(t, b, build.Stats{})
}

// TestKept: whose text is kept, whatever its name and place.
func TestKept(t *testing.T) {
	m := "main: package main; func main() { }"
	for _, c := range []struct {
		what       string
		last, next []api.File
		want       build.Stats // behind the second call, less the files of the first
	}{
		{"the same", files(m), files(m), build.Stats{Whole: 1}},
		{"another name", files(m), files("n" + m), build.Stats{Kept: 1}},
		{"a text of another file", files(m, "x/a: package x", "x/b: package x // b"), files(m, "x/a: package x // b", "x/b: package x"), build.Stats{Kept: 3}},
		{"a text of two files", files(m, "x/a: package x", "x/b: package x"), files(m, "x/b: package x"), build.Stats{Kept: 2}},
		{"a text for two files", files(m, "x/a: package x"), files(m, "x/b: package x", "x/c: package x", "x/d: package x"), build.Stats{Kept: 4}},
		{"a new text for two files", files(m), files(m, "x/b: package x", "x/c: package x"), build.Stats{Read: 2, Kept: 1}},
		{"another order", files(m, "x/a: package x", "x/b: package x // b"), files("x/b: package x // b", m, "x/a: package x"), build.Stats{Kept: 3}},
		{"another order of names", files(m, "x/a: package x", "x/b: package x"), files(m, "x/b: package x", "x/a: package x"), build.Stats{Kept: 3}},
		{"one text more", files(m, "x/a: package x"), files(m, "x/a: package x "), build.Stats{Read: 1, Kept: 1}},
		{"one file less", files(m, "x/a: package x"), files(m), build.Stats{Kept: 1}},
		{"an empty text", files(m, "x/a: "), files(m, "x/b: "), build.Stats{Kept: 2}},
		{"a new empty text", files(m), files(m, "x/b: "), build.Stats{Read: 1, Kept: 1}},
		{"a fault", files("a: #"), files("a: #"), build.Stats{Whole: 1}},
		{"a fault of another name", files("a: #", m), files(m, "b: #"), build.Stats{Kept: 2}},
		{"nothing in common", files(m), files("a: package main", "b: #"), build.Stats{Read: 2}},
		{"bytes that are no text", files("a: \xff", m), files(m, "a: \xfe"), build.Stats{Read: 1, Kept: 1}},
	} {
		b := builder(t, 3)
		sameOpen(t, b, c.last)
		sameOpen(t, b, c.next)
		c.want.Read += len(c.last)
		if got := b.Stats(); got != c.want {
			t.Errorf("18.4: %s: %v, not %v", c.what, got, c.want)
		}
	}
}

// TestForgotten: only the last call's texts are kept.
func TestForgotten(t *testing.T) {
	b := builder(t, 2)
	one, two := files("main: package main; func main() { }"), files("main: package main; func main() { print(1) }")
	for i := range 4 {
		sameOpen(t, b, one)
		sameOpen(t, b, two)
		counts(t, b, build.Stats{Read: 2*i + 2})
	}
}

// TestUnheard: calls that are not heard stand between others that are alike: those are whole, and nothing is counted.
func TestUnheard(t *testing.T) {
	many := base()
	for i := len(many); i <= api.MaxFiles; i++ {
		many = append(many, api.File{Name: fmt.Sprint("x/", i), Text: "package x"})
	}
	deaf := [][]api.File{nil, {}, many, append(base(), base()...), files("a: #", "a: #")}
	b := builder(t, 4)
	for i, given := range deaf { // ahead of all calls
		sameOpen(t, b, given)
		sameAll(t, b, given, []build.Ask{{0, 0, "x"}, {0, 3, "if"}, {1, 0, "x"}, {-1, 0, ""}})
		counts(t, b, build.Stats{})
		sameOpen(t, b, base())
		b.Drop()
		b = builder(t, 4+i)
	}
	sameOpen(t, b, base())
	for i, given := range deaf {
		sameOpen(t, b, given)
		sameRename(t, b, given, build.Ask{Name: "x"})
		sameRename(t, b, given, build.Ask{Name: ""})
		sameAll(t, b, given, []build.Ask{{0, 0, "x"}, {64, 0, "x"}})
		counts(t, b, build.Stats{Read: 3, Whole: i})
		sameOpen(t, b, base())
		counts(t, b, build.Stats{Read: 3, Whole: i + 1})
	}
}

// TestMaxFiles: MaxFiles files are heard.
func TestMaxFiles(t *testing.T) {
	given := base()
	for i := len(given); i < api.MaxFiles; i++ {
		given = append(given, api.File{Name: fmt.Sprint("x/", i), Text: fmt.Sprint("package x; func f", i, "() { }")})
	}
	b := builder(t, api.MaxWork)
	sameOpen(t, b, given)
	counts(t, b, build.Stats{Read: api.MaxFiles})
	given[api.MaxFiles-1].Text += "\nvar last = 1"
	sameOpen(t, b, given)
	counts(t, b, build.Stats{Read: api.MaxFiles + 1, Kept: api.MaxFiles - 1})
	more := append(given, api.File{Name: "z/z", Text: "package z"})
	sameOpen(t, b, more)
	counts(t, b, build.Stats{Read: api.MaxFiles + 1, Kept: api.MaxFiles - 1})
	sameOpen(t, b, given)
	counts(t, b, build.Stats{Read: api.MaxFiles + 1, Kept: api.MaxFiles - 1, Whole: 1})
}

// TestMaxPieces: files behind one that passes the limit are read, though their faults do not matter.
func TestMaxPieces(t *testing.T) {
	head := "package main; func main() { }"
	l, _ := lexer.Scan(head)
	most := head + strings.Repeat("/**/", api.MaxPieces-len(l))
	for _, given := range [][]api.File{
		files("main: " + most),
		files("main: "+most, "x/a: package x"),
		files("x/a: package x", "main: "+most, "x/b: #"),
		files("main: "+most+"/**/", "x/b: #"),
	} {
		b := builder(t, 2)
		w, f := b.Open(given)
		_, want := xref.Open(given)
		if f != want || (w == nil) != (want.Why == api.ErrMany) {
			t.Errorf("18.2: %v, not %v", f, want)
		}
		counts(t, b, build.Stats{Read: len(given)})
		sameRename(t, b, given, build.Ask{Offset: 8, Name: "x"})
		counts(t, b, build.Stats{Read: len(given), Whole: 1})
	}
}

// TestFaults: a file with a fault is read, kept, and whole as others are; files behind it are too.
func TestFaults(t *testing.T) {
	b := builder(t, 2)
	wrong := files("main: package main; func main() { x }", "x/a: #", "x/b: package", "x/c: \"", "x/d: package y")
	sameOpen(t, b, wrong)
	counts(t, b, build.Stats{Read: 5})
	sameOpen(t, b, wrong)
	sameRename(t, b, wrong, build.Ask{Offset: 13, Name: "y"})
	counts(t, b, build.Stats{Read: 5, Whole: 2})
	for i := 4; i > 0; i-- { // one fault less each time
		wrong = slices.Delete(wrong, 1, 2)
		sameOpen(t, b, wrong)
	}
	counts(t, b, build.Stats{Read: 5, Kept: 4 + 3 + 2 + 1, Whole: 2})
	wrong[0].Text = "package main; func main() { }"
	sameOpen(t, b, wrong)
	counts(t, b, build.Stats{Read: 6, Kept: 10, Whole: 2})
}

func TestDrop(t *testing.T) {
	b := builder(t, 5)
	b.Drop()
	counts(t, b, build.Stats{})
	sameOpen(t, b, base())
	sameOpen(t, b, base())
	counts(t, b, build.Stats{Read: 3, Whole: 1})
	b.Drop()
	b.Drop()
	counts(t, b, build.Stats{Read: 3, Whole: 1})
	sameAll(t, b, base(), []build.Ask{{1, 16, "U"}})
	counts(t, b, build.Stats{Read: 6, Whole: 1})
	sameOpen(t, b, base()[:1])
	counts(t, b, build.Stats{Read: 6, Kept: 1, Whole: 1})
	b.Drop()
	sameOpen(t, b, nil)
	sameRename(t, b, base()[:1], build.Ask{Name: "x"})
	counts(t, b, build.Stats{Read: 7, Kept: 1, Whole: 1})
}

// TestCalls: Open, Rename and All are calls of one sort, whatever they answer.
func TestCalls(t *testing.T) {
	b := builder(t, 3)
	sameRename(t, b, base(), build.Ask{File: 9})
	counts(t, b, build.Stats{Read: 3})
	sameAll(t, b, base(), nil)
	counts(t, b, build.Stats{Read: 3, Whole: 1})
	sameOpen(t, b, base())
	counts(t, b, build.Stats{Read: 3, Whole: 2})
	sameRename(t, b, base()[:2], build.Ask{File: 1, Offset: 16, Name: "U"}) // without x/y: a fault
	counts(t, b, build.Stats{Read: 3, Kept: 2, Whole: 2})
	sameAll(t, b, base(), []build.Ask{{File: 1, Offset: 16, Name: "U"}})
	counts(t, b, build.Stats{Read: 4, Kept: 4, Whole: 2})
}

// TestAll: none, one, as many as there are workers, more, and many more; of no file, of no byte, of no name; the same again and again.
func TestAll(t *testing.T) {
	for _, workers := range []int{1, 2, 7, 16} {
		r := chance(uint64(workers))
		b := builder(t, workers)
		for i, n := range []int{0, 1, workers, workers + 1, 5*workers + 3} {
			asks := append(someAsks(r, base(), n), someAsks(r, nil, n/2)...)
			sameAll(t, b, base(), asks)
			counts(t, b, build.Stats{Read: 3, Whole: i})
		}
		same := slices.Repeat([]build.Ask{{1, 16, "U"}}, 3*workers)
		for _, x := range sameAll(t, b, base(), same) {
			if x.Why != api.OK || len(x.Changes) != 3 {
				t.Fatalf("18.3: %v", x)
			}
		}
	}
}

// TestEvery: all bytes of a program, each with a name that is fresh, one that is taken, and one that none may have.
func TestEvery(t *testing.T) {
	given := base()
	var asks []build.Ask
	for file, f := range given {
		for offset := -1; offset <= len(f.Text); offset++ {
			asks = append(asks, build.Ask{file, offset, "fresh"}, build.Ask{file, offset, "t"}, build.Ask{file, offset, "func"})
		}
	}
	met := map[api.Errno]int{}
	for _, x := range sameAll(t, builder(t, 8), given, asks) {
		met[x.Why]++
	}
	for _, e := range []api.Errno{api.OK, api.ErrArg, api.ErrNowhere, api.ErrTarget, api.ErrNewName} {
		if met[e] == 0 {
			t.Errorf("never met: %d", e)
		}
	}
}
