package xref_test

import (
	"fmt"
	"slices"
	"strings"
	"sync"
	"testing"

	"moniker/api"
	"moniker/xref"
)

// TestNil: 13.9, 13.7: a nil Whole.
func TestNil(t *testing.T) {
	var none *xref.Whole
	if none.Program() != nil || none.Scopes() != nil || none.Table() != nil || none.Checks() != nil {
		t.Error("13.9: objects")
	}
	if len(none.Uses()) > 0 || len(none.Decls(api.Place{})) > 0 || len(none.Where(0)) > 0 || len(none.Satisfied()) > 0 || none.Outline(0) != "" {
		t.Error("13.9: answers")
	}
	if p, e := none.At(0, 0); p != (api.Place{}) || e != api.ErrArg {
		t.Errorf("13.9: At = %v, %d", p, e)
	}
	w := opened(t, mainly(""))
	for _, pair := range [][2]*xref.Whole{{nil, nil}, {w, nil}, {nil, w}} {
		if e, p := xref.Alike(pair[0], pair[1]); e != api.ErrArg || p != (api.Place{}) {
			t.Errorf("13.7: %v, %d", p, e)
		}
	}
}

// TestNewMemory: P4: answers that are written over change nothing, nor does what was handed in.
func TestNewMemory(t *testing.T) {
	given := make([]api.File, 0, 10)
	given = append(given, someFiles(chance(10))...)
	kept := slices.Clone(given[:cap(given)])
	w := opened(t, given)
	if !slices.Equal(given[:cap(given)], kept) {
		t.Error("P4: files changed")
	}
	before := storyOf(w)
	spoil(given, api.File{})
	for range 2 {
		s := storyOf(w)
		if !s.same(before) {
			t.Fatal("13.9: other answers when asked again")
		}
		spoil(s.uses, api.Use{Decl: -7})
		spoil(s.satisfied, [2]string{"a", "b"})
		for _, l := range s.decls {
			spoil(l, -7)
		}
		for _, l := range s.where {
			spoil(l, api.Place{File: -7})
		}
	}
	if !storyOf(opened(t, w.Program().Files())).same(before) {
		t.Error("P5: other answers of the same files")
	}
}

// TestTogether: P5: several that ask at once.
func TestTogether(t *testing.T) {
	given := someFiles(chance(11))
	want := storyOf(opened(t, given))
	w := opened(t, given)
	var all sync.WaitGroup
	for range 8 {
		all.Go(func() {
			if !storyOf(w).same(want) {
				t.Error("P5: other answers")
			}
			if e, _ := xref.Alike(w, w); e != api.OK {
				t.Error("P5: Alike")
			}
		})
	}
	all.Wait()
}

// TestAskedBefore: P5: what a Whole was asked plays no part.
func TestAskedBefore(t *testing.T) {
	given := someFiles(chance(12))
	want := storyOf(opened(t, given))
	w := opened(t, given)
	for id := range 50 {
		w.Table().Pointer(w.Table().Slice(id))
		w.At(id%3, id)
		w.Outline(id)
	}
	if !storyOf(w).same(want) {
		t.Error("P5: other answers")
	}
}

// TestLimits: as many files and pieces as may be, and one more.
func TestLimits(t *testing.T) {
	given := mainly("")
	for i := range api.MaxFiles - 1 {
		given = append(given, api.File{Name: fmt.Sprint("b", i), Text: "package main; var v" + fmt.Sprint(i) + " int"})
	}
	w := opened(t, given)
	if l := w.Where(w.Decls(api.Place{Token: 2})[0]); len(l) != api.MaxFiles || w.Outline(63) != "var v62: int\n" {
		t.Errorf("MaxFiles: %v", l)
	}
	if p, e := w.At(63, 8); p != (api.Place{File: 63, Token: 2}) || e != api.OK {
		t.Errorf("MaxFiles: %v, %d", p, e)
	}
	if w, f := xref.Open(append(given, api.File{Name: "z", Text: "package main"})); w != nil || f != (api.Fault{Why: api.ErrMany, File: 64}) {
		t.Errorf("MaxFiles: %v", f)
	}
	// package main ; func main ( ) { , autos and blanks: 16 pieces, and six for each print(v);
	head, stmt := "package main;func main(){var v int;", "print(v);"
	count := (api.MaxPieces - 19) / 5
	text := head + strings.Repeat(stmt, count) + "}"
	w = opened(t, files("a: "+text))
	if n := len(w.Program().Tokens(0)); n > api.MaxPieces || n < api.MaxPieces-5 {
		t.Fatalf("%d pieces", n)
	}
	if l := w.Where(w.Decls(at(t, w, "v", 1))[0]); len(l) != count+1 {
		t.Errorf("MaxPieces: %d", len(l))
	}
	if _, f := xref.Open(files("a: " + strings.Replace(text, "}", strings.Repeat(";", api.MaxPieces-len(w.Program().Tokens(0)))+"}", 1))); f != (api.Fault{}) {
		t.Errorf("MaxPieces: %v", f)
	}
	if w, f := xref.Open(files("a: " + strings.Replace(text, "}", strings.Repeat(";", api.MaxPieces-len(w.Program().Tokens(0))+1)+"}", 1))); w != nil || f != (api.Fault{Why: api.ErrMany}) {
		t.Errorf("MaxPieces: %v", f)
	}
}

// TestSatisfied: 13.6, where names, paths and method sets are told apart.
func TestSatisfied(t *testing.T) {
	w := opened(t, files("a: package main; import \"x\"; type I interface { m() }; type S struct { x.T }; type P struct { *x.T }; type N int; func (n N) m() { }; type J interface { I; x.I }; type Q *S; func main() { type L interface { n() int }; type S struct { x.T } }", "x/b: package x; type T struct { }; func (t *T) m() { }; func (t T) n() { }; type I interface { n() }"))
	want := [][2]string{
		{`"".I`, `"".I`}, {`"".J`, `"".I`}, {`"".J`, `"".J`}, {`"".J`, `"x".I`}, {`"".L#N`, `"".L#N`}, {`"".N`, `"".I`}, {`"".P`, `"".I`}, {`"".P`, `"".J`}, {`"".P`, `"x".I`}, {`"".S`, `"x".I`}, {`"".S#M`, `"x".I`}, {`"x".I`, `"x".I`}, {`"x".T`, `"x".I`},
		{`*"".N`, `"".I`}, {`*"".P`, `"".I`}, {`*"".P`, `"".J`}, {`*"".P`, `"x".I`}, {`*"".S`, `"".I`}, {`*"".S`, `"".J`}, {`*"".S`, `"x".I`}, {`*"".S#M`, `"".I`}, {`*"".S#M`, `"".J`}, {`*"".S#M`, `"x".I`}, {`*"x".T`, `"".I`}, {`*"x".T`, `"".J`}, {`*"x".T`, `"x".I`},
	}
	decls := w.Scopes().Decls()
	number := strings.NewReplacer("#N", fmt.Sprint("#", slices.IndexFunc(decls, func(d api.Decl) bool { return d.Name == "L" })), "#M", fmt.Sprint("#", w.Decls(at(t, w, "S", 3))[0]))
	for i := range want {
		want[i] = [2]string{number.Replace(want[i][0]), number.Replace(want[i][1])}
	}
	if got := w.Satisfied(); !slices.Equal(got, want) {
		t.Errorf("13.6: %q, not %q", got, want)
	}
	if got := opened(t, mainly("type a struct { }; type _ interface { }")).Satisfied(); len(got) != 0 {
		t.Errorf("13.6: %q", got)
	}
	r := chance(13)
	for range 40 {
		w := opened(t, someFiles(r))
		var want [][2]string
		for d, x := range w.Scopes().Decls() {
			for e, i := range w.Scopes().Decls() {
				if x.Kind != api.DeclType || i.Kind != api.DeclType {
					continue
				}
				for _, id := range []int{w.Table().Named(d), w.Table().Pointer(w.Table().Named(d))} {
					if w.Table().Satisfies(id, w.Table().Named(e)) {
						want = append(want, [2]string{w.Table().Show(id), w.Table().Show(w.Table().Named(e))})
					}
				}
			}
		}
		slices.SortFunc(want, func(a, b [2]string) int { return slices.Compare(a[:], b[:]) })
		if got := w.Satisfied(); !slices.Equal(got, want) {
			t.Fatalf("13.6: %q, not %q", got, want)
		}
	}
}
