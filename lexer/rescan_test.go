package lexer_test

import (
	"math"
	"math/rand/v2"
	"slices"
	"testing"

	"moniker/api"
	"moniker/lexer"
)

func TestSound(t *testing.T) {
	const text = "a := 1 // x\n}"
	l := scanned(t, text)
	if !lexer.Sound(text, l) || !lexer.Sound("", nil) || !lexer.Sound("", []api.Token{}) {
		t.Error("2.3: a list of Scan is not sound")
	}
	for i := range l {
		less := slices.Delete(slices.Clone(l), i, i+1)
		more := slices.Insert(slices.Clone(l), i, l[i])
		kind, from, to := slices.Clone(l), slices.Clone(l), slices.Clone(l)
		kind[i].Kind = (kind[i].Kind + 1) % api.KindCount
		from[i].From--
		to[i].To++
		for _, wrong := range [][]api.Token{less, more, kind, from, to, l[:i]} {
			if lexer.Sound(text, wrong) {
				t.Errorf("2.3: Sound(%q, %v)", text, wrong)
			}
		}
	}
	for _, c := range []struct {
		text string
		l    []api.Token
	}{
		{"b := 1 // x\n}!", l}, {"a = 1", l}, {"", l}, {text, nil}, {"#", nil}, {"'", nil},
		{"a", []api.Token{{Kind: api.TokName, From: math.MinInt, To: math.MaxInt}, {Kind: 255, From: -1, To: -5}}},
	} {
		if lexer.Sound(c.text, c.l) {
			t.Errorf("2.3: Sound(%q, %v)", c.text, c.l)
		}
	}
	if !lexer.Sound("b := 2 // y\n]", replaced(l, api.TokEnd, api.TokCloseAt)) {
		t.Error("2.3: only kinds and places are looked at")
	}
}

func replaced(l []api.Token, from, to api.Kind) []api.Token {
	out := slices.Clone(l)
	for i := range out {
		if out[i].Kind == from {
			out[i].Kind = to
		}
	}
	return out
}

func TestRescan(t *testing.T) {
	for _, c := range []struct {
		text string
		e    api.Edit
		want string
		f    api.Fault
	}{
		{"ab", api.Edit{From: 1, To: 1, Text: " "}, "a b", none},
		{"a b", api.Edit{From: 1, To: 2, Text: "\""}, "a\"b", fault(api.ErrQuote, 1)},
		{"..x", api.Edit{From: 2, To: 3, Text: "."}, "...", none},
		{"a + b", api.Edit{From: 5, To: 5, Text: "\n"}, "a + b\n", none},
		{"a /* */ b", api.Edit{From: 4, To: 5, Text: "\n"}, "a /*\n*/ b", none},
		{"a /* */ b */", api.Edit{From: 5, To: 5, Text: "*"}, "a /* **/ b */", none},
		{"a /* */ b */", api.Edit{From: 5, To: 7}, "a /*  b */", none},
		{"a\nb", api.Edit{From: 1, To: 2}, "ab", none},
		{"", api.Edit{}, "", none},
		{"", api.Edit{Text: "x"}, "x", none},
		{"x", api.Edit{To: 1}, "", none},
		{"x y", api.Edit{From: 1, To: 2, Text: "#"}, "x#y", fault(api.ErrByte, 1)},
		{"é", api.Edit{From: 1, To: 2}, "\xc3", fault(api.ErrByte, 0)},
	} {
		text, l, f := lexer.Rescan(c.text, scanned(t, c.text), c.e)
		want, _ := lexer.Scan(c.want)
		if text != c.want || !slices.Equal(l, want) || f != c.f {
			t.Errorf("2.4: Rescan(%q, .., %v) = %q, %v, %v, want %q, %v, %v", c.text, c.e, text, l, f, c.want, want, c.f)
		}
	}
}

func TestRescanRefuses(t *testing.T) {
	l := scanned(t, "ab")
	for _, c := range []struct {
		text string
		l    []api.Token
		e    api.Edit
		why  api.Errno
	}{
		{"ab", l, api.Edit{From: 2, To: 1}, api.ErrSpan},
		{"ab", l, api.Edit{From: 0, To: 9}, api.ErrSpan},
		{"ab", l, api.Edit{From: 0, To: 3, Text: "x"}, api.ErrSpan},
		{"ab", l, api.Edit{From: 3, To: 3}, api.ErrSpan},
		{"ab", l, api.Edit{From: -1}, api.ErrSpan},
		{"ab", l, api.Edit{From: math.MinInt, To: math.MaxInt}, api.ErrSpan},
		{"ab", l, api.Edit{From: math.MaxInt, To: math.MinInt}, api.ErrSpan},
		{"abc", l, api.Edit{}, api.ErrArg},
		{"abc", l, api.Edit{From: 2, To: 1}, api.ErrArg},
		{"ab", nil, api.Edit{}, api.ErrArg},
		{"ab", l[:1], api.Edit{}, api.ErrArg},
		{"", l, api.Edit{}, api.ErrArg},
		{"#", nil, api.Edit{To: 1}, api.ErrArg},
	} {
		if text, got, f := lexer.Rescan(c.text, c.l, c.e); text != "" || len(got) != 0 || f != fault(c.why, 0) {
			t.Errorf("2.4: Rescan(%q, %v, %v) = %q, %v, %v, want %d", c.text, c.l, c.e, text, got, f, c.why)
		}
	}
}

// TestRescanIsScan: by way of the old pieces, what comes out is what Scan answers.
func TestRescanIsScan(t *testing.T) {
	r := rand.New(rand.NewPCG(2, 4))
	of := bits()
	for range 60000 {
		s, l := soundSource(r, of)
		from := r.IntN(len(s) + 1)
		to := from + r.IntN(min(5, len(s)-from+1))
		e := api.Edit{From: from, To: to}
		for range r.IntN(3) {
			e.Text += of[r.IntN(len(of))]
		}
		text, got, f := lexer.Rescan(s, l, e)
		if text != s[:from]+e.Text+s[to:] {
			t.Fatalf("2.4: Rescan(%q, .., %v) gives %q", s, e, text)
		}
		want, wantFault := lexer.Scan(text)
		if !slices.Equal(got, want) || f != wantFault {
			t.Fatalf("2.4: Rescan(%q, .., %v) = %v, %v, want %v, %v", s, e, got, f, want, wantFault)
		}
		if f != none {
			continue
		}
		back, first, f := lexer.Rescan(text, got, api.Edit{From: from, To: from + len(e.Text), Text: s[from:to]})
		if back != s || !slices.Equal(first, l) || f != none {
			t.Fatalf("2.16: %q, %v taken back: %q, %v, %v", s, e, back, first, f)
		}
	}
}
