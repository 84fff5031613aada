package xref_test

import (
	"math/rand/v2"
	"slices"
	"strings"
	"testing"

	"moniker/api"
	"moniker/xref"
)

// TestAlike: 13.7: programs that differ in one thing; the place is told by a word of the first one and its number.
func TestAlike(t *testing.T) {
	body := "var v int\nfunc f(w int) int { return w + v }"
	for _, c := range []struct {
		a, b   string
		why    api.Errno
		word   string
		number int
	}{
		{body, body, api.OK, "", 0},
		{body, "var x   int // one\nfunc g(y /* two */ int) int { return y + x }", api.OK, "", 0},
		{body, "var f int\nfunc v(w int) int { return w + f }", api.OK, "", 0}, // other names
		{"const c = 1; var v = \"a\"", "const d = 222; var w = `b`", api.OK, "", 0},
		{body, "var v int\nfunc f(w int) int { return w + w }", api.ErrBound, "v", 2},
		{body, "var w int\nfunc f(w int) int { return w + w }", api.ErrBound, "v", 2},
		{body, "var v int\nfunc f(w int) int { return w - v }", api.ErrBroken, "+", 1},
		{body, "var v int\nfunc f(w int) int { return 1 + v }", api.ErrBroken, "w", 2},
		{body, "var v int\nfunc f(w int) int { return w + 1 }", api.ErrBroken, "v", 2},
		{body, "var v int;func f(w int) int { return w + v }", api.ErrBroken, "", 1}, // an auto, a written one
		{body, "var v string\nfunc f(w int) int { return w + len(v) }", api.ErrBound, "int", 1},
		{body, "var _ int\nfunc f(w int) int { return w + w }", api.ErrBroken, "v", 1},
		{"var _ int", "var v int", api.ErrBroken, "_", 1},
		{"var _, v int", "var v, _ int", api.ErrBroken, "_", 1},
		{"var _ int", "var _ string", api.ErrBound, "int", 1},
		{"var v = int(1)", "var v = (1)", api.ErrBroken, "int", 1},
		{"var v = true", "var v = 1", api.ErrBroken, "true", 1},
		{"type t struct { a, b int }; var v = t{a: 1}", "type t struct { a, b int }; var v = t{b: 1}", api.ErrBound, "a", 2},
		{"type t struct { a, b int }; var v = t{}.a", "type t struct { b, a int }; var v = t{}.b", api.OK, "", 0},
		{"type t struct { a, b int }; var v = t{}.a", "type t struct { a, b int }; var v = t{}.b", api.ErrBound, "a", 2},
		{"type i interface { j }; type j interface { m() }; type k interface { m() }; func f(x i) { x.m() }", "type i interface { k }; type j interface { m() }; type k interface { m() }; func f(x i) { x.m() }", api.ErrBound, "j", 1},
		{"type t struct { u }; type u struct { }; type w struct { }", "type t struct { w }; type u struct { }; type w struct { }", api.ErrBound, "u", 1},
		{"func f() { L: for { M: for { break L; break M } } }", "func f() { L: for { M: for { break M; break L } } }", api.ErrBound, "L", 2},
	} {
		a, b := opened(t, mainly(c.a)), opened(t, mainly(c.b))
		want := api.Place{}
		if c.word != "" {
			want = at(t, a, c.word, c.number)
		} else if c.why != api.OK { // the auto behind the first line
			want = api.Place{Token: slices.IndexFunc(a.Program().Tokens(0), func(p api.Token) bool { return p.Kind == api.TokAuto && p.From > 20 })}
		}
		if why, place := xref.Alike(a, b); why != c.why || place != want {
			t.Errorf("13.7: %q, %q: %d at %v, not %d at %v", c.a, c.b, why, place, c.why, want)
		}
		if why, _ := xref.Alike(b, a); (why == api.OK) != (c.why == api.OK) {
			t.Errorf("13.11: %q, %q: the other way round %d", c.a, c.b, why)
		}
	}
}

// TestAlikeLengths: 13.7, where one has more files or more tokens.
func TestAlikeLengths(t *testing.T) {
	one := files("a: package main; func main() { }")
	two := files("a: package main; func main() { }", "b: package main; var v int // end\n")
	longer := files("a: package main; func main() { }; var w int", "b: package main; var v int // end\n")
	behind := files("a: package main; func main() { }", "b: package main; var v int; var w int")
	other := files("a: package main; func main() { }; var w int", "b: package main; var _ int")
	for _, c := range []struct {
		a, b  []api.File
		why   api.Errno
		place api.Place
	}{
		{one, one, api.OK, api.Place{}}, {two, two, api.OK, api.Place{}},
		{one, two, api.ErrBroken, api.Place{Token: 14}},    // the last token of its last file
		{two, one, api.ErrBroken, api.Place{File: 1}},      // the first token of the file that the other has not
		{two, longer, api.ErrBroken, api.Place{Token: 14}}, // an auto, where the other has a ;
		{longer, two, api.ErrBroken, api.Place{Token: 14}}, // likewise
		{two, behind, api.ErrBroken, api.Place{File: 1, Token: 10}}, {behind, two, api.ErrBroken, api.Place{File: 1, Token: 10}},
		{two, other, api.ErrBroken, api.Place{Token: 14}}, {one, longer, api.ErrBroken, api.Place{Token: 14}},
	} {
		a, b := opened(t, c.a), opened(t, c.b)
		if why, place := xref.Alike(a, b); why != c.why || place != c.place {
			t.Errorf("13.7: %q, %q: %d at %v, not %v", c.a, c.b, why, place, c.place)
		}
	}
	// the second file's last token, whichever of b's files has more; a difference in a's tokens comes first
	more := "\nvar _ int\n"
	a := opened(t, files("a: package main\nfunc main() { }\n", "b: package main\nvar v int\n/* end */"))
	last := api.Place{File: 1, Token: 10}
	for _, c := range []struct {
		b     []api.File
		place api.Place
		why   api.Errno
	}{
		{files("a: package main\nfunc main() { }"+more, "b: package main\nvar v int"), last, api.ErrBroken},
		{files("a: package main\nfunc main() { }", "b: package main\nvar v int"+more), last, api.ErrBroken},
		{files("a: package main\nfunc main() { }", "b: package main\nvar v int", "c: package main"), last, api.ErrBroken},
		{files("a: package main\nfunc main() { }"+more, "b: package main\nvar _ int"), api.Place{File: 1, Token: 7}, api.ErrBroken},
		{files("a: package main\nfunc main() { }"+more, "b: package main\nvar v string"), api.Place{File: 1, Token: 9}, api.ErrBound},
		{files("a: package main\nfunc main() { }", "b: package main\nvar v string"), api.Place{File: 1, Token: 9}, api.ErrBound},
		{files("a: package main\nfunc main() { }\nvar w int", "b: package main\nvar v int"), api.Place{File: 1, Token: 7}, api.ErrBound},
	} {
		if why, place := xref.Alike(a, opened(t, c.b)); why != c.why || place != c.place {
			t.Errorf("13.7: %q: %d at %v, not %d at %v", c.b, why, place, c.why, c.place)
		}
	}
}

// wordAlike is Alike by the chapter's words.
func wordAlike(a, b *xref.Whole) (api.Errno, api.Place) {
	type token struct {
		kind    api.Kind
		isBlank bool
		decls   []int
		at      api.Place
	}
	tokens := func(w *xref.Whole) [][]token {
		var out [][]token
		for file, f := range w.Program().Files() {
			var l []token
			for k, p := range w.Program().Tokens(file) {
				if here := (api.Place{File: file, Token: k}); p.Kind != api.TokBlanks && p.Kind != api.TokNote {
					l = append(l, token{p.Kind, f.Text[p.From:p.To] == "_", w.Decls(here), here})
				}
			}
			out = append(out, l)
		}
		return out
	}
	mine, its := tokens(a), tokens(b)
	more := len(its) > len(mine)
	for i, l := range mine {
		for k, x := range l {
			switch {
			case i >= len(its) || k >= len(its[i]) || its[i][k].kind != x.kind || its[i][k].isBlank != x.isBlank:
				return api.ErrBroken, x.at
			case !slices.Equal(x.decls, its[i][k].decls):
				return api.ErrBound, x.at
			}
		}
		more = more || i < len(its) && len(its[i]) > len(l)
	}
	if more {
		l := mine[len(mine)-1]
		return api.ErrBroken, l[len(l)-1].at
	}
	return api.OK, api.Place{}
}

// otherWord puts another name, or another token of its kind, in the place of one identifier.
func otherWord(r *rand.Rand, w *xref.Whole) []api.File {
	l := occurrences(w)
	changed := pick(r, l...)
	name := w.Program().Word(pick(r, l...))
	if r.IntN(5) == 0 {
		name = pick(r, "_", "1", "Fresh", "nil")
	}
	return rewritten(w, func(at api.Place, _ api.Token, old string) string {
		if at == changed {
			return name
		}
		return old
	})
}

// TestAlikeByWords: 13.7: programs by chance with one word that is another.
func TestAlikeByWords(t *testing.T) {
	r := chance(4)
	told := map[api.Errno]int{}
	for range 40 {
		w := opened(t, someFiles(r))
		for range 50 {
			given := otherWord(r, w)
			if r.IntN(8) == 0 {
				given[r.IntN(len(given))].Text += pick(r, "var Fresh2 int", "// end", "\n\n")
			}
			v, f := xref.Open(given)
			if f.Why != api.OK {
				continue
			}
			why, place := xref.Alike(w, v)
			wantWhy, want := wordAlike(w, v)
			if why != wantWhy || place != want {
				t.Fatalf("13.7: %d at %v, not %d at %v: %.1000q, %.1000q", why, place, wantWhy, want, w.Program().Files(), given)
			}
			told[why]++
			if back, _ := xref.Alike(v, w); (back == api.OK) != (why == api.OK) {
				t.Fatalf("13.11: %d, and %d the other way round", why, back)
			}
		}
	}
	if told[api.OK] < 20 || told[api.ErrBound] < 20 || told[api.ErrBroken] < 5 {
		t.Errorf("too few: %v", told)
	}
}

// strewn are a program's files with other blanks and comments between the tokens, none of which makes an auto or takes one away.
func strewn(r *rand.Rand, w *xref.Whole) []api.File {
	return rewritten(w, func(at api.Place, p api.Token, old string) string {
		if p.Kind != api.TokBlanks && p.Kind != api.TokNote {
			if r.IntN(4) == 0 {
				return pick(r, "", " ", " /* a b */", "\t /**/ ") + old
			}
			return old
		}
		if !strings.Contains(old, "\n") {
			return pick(r, " ", "\t", " /**/", " /* c */ ", "  ")
		}
		return pick(r, "\n", " // d\n", "\n\n/* e */", " /*\n*/ ")
	})
}

// TestOtherBlanks: 13.11: other blanks and comments change nothing but tokens' numbers.
func TestOtherBlanks(t *testing.T) {
	r := chance(5)
	for range 60 {
		w := opened(t, someFiles(r))
		v := opened(t, strewn(r, w))
		for _, pair := range [][2]*xref.Whole{{w, w}, {w, v}, {v, w}, {v, v}} {
			if why, place := xref.Alike(pair[0], pair[1]); why != api.OK || place != (api.Place{}) {
				t.Fatalf("13.11: %d at %v: %.1000q", why, place, v.Program().Files())
			}
		}
		a, b := w.Uses(), v.Uses()
		places := map[api.Place]api.Place{}
		mine, its := occurrences(w), occurrences(v)
		for i, at := range mine {
			places[at] = its[i]
		}
		for i := range a {
			a[i].At = places[a[i].At]
		}
		if !slices.Equal(a, b) || !slices.Equal(w.Satisfied(), v.Satisfied()) {
			t.Fatal("13.11: Uses or Satisfied are others")
		}
		for file := range w.Program().Files() {
			if w.Outline(file) != v.Outline(file) {
				t.Fatalf("13.8: %q, not %q", v.Outline(file), w.Outline(file))
			}
		}
	}
}
