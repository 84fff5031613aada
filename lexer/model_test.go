package lexer_test

import (
	"math/rand/v2"
	"regexp"
	"slices"
	"strings"
	"testing"
	"unicode/utf8"

	"moniker/api"
	"moniker/lexer"
)

// A second way to cut a source, by patterns, to hold Scan against.

const (
	escape  = `\\[abfnrtv\\]|\\x[0-9a-fA-F]{2}|\\[0-3][0-7]{2}|\\u(?:[0-9a-cA-Ce-fE-F][0-9a-fA-F]{3}|[dD][0-7][0-9a-fA-F]{2})|\\U(?:0000(?:[0-9a-cA-Ce-fE-F][0-9a-fA-F]{3}|[dD][0-7][0-9a-fA-F]{2})|000[1-9a-fA-F][0-9a-fA-F]{4}|0010[0-9a-fA-F]{4})`
	inChar  = `(?:[^'\\\n]|\\'|` + escape + `)`
	inText  = `(?:[^"\\\n]|\\"|` + escape + `)`
	letter  = `[_\p{L}]`
	run     = `[_\p{L}\p{Nd}]*`
	numbers = `0|[1-9](?:_?[0-9])*|0[xX](?:_?[0-9a-fA-F])+|0[oO](?:_?[0-7])+|0[bB](?:_?[01])+`
)

var patterns = []struct {
	kind  api.Kind
	first string // what it begins with
	whole *regexp.Regexp
	why   api.Errno
}{
	{api.TokBlanks, ``, regexp.MustCompile(`^[ \t\r\n]+`), api.OK},
	{api.TokNote, ``, regexp.MustCompile(`^//[^\n]*`), api.OK},
	{api.TokNote, `/*`, regexp.MustCompile(`^(?s:/\*.*?\*/)`), api.ErrNote},
	{api.TokName, ``, regexp.MustCompile(`^` + letter + run), api.OK},
	{api.TokNumber, ``, regexp.MustCompile(`^[0-9]` + run), api.OK},
	{api.TokChar, `'`, regexp.MustCompile(`^'` + inChar + `'`), api.ErrQuote},
	{api.TokText, `"`, regexp.MustCompile(`^"` + inText + `*"`), api.ErrQuote},
	{api.TokText, "`", regexp.MustCompile("^`[^`]*`"), api.ErrQuote},
}

var wholeNumber = regexp.MustCompile(`^(?:` + numbers + `)$`)

// modelPiece is the piece at a place, or the fault.
func modelPiece(text string, at int) (api.Token, api.Fault) {
	for _, p := range patterns {
		found := p.whole.FindString(text[at:])
		if found == "" && p.first != "" && strings.HasPrefix(text[at:], p.first) {
			return api.Token{}, fault(p.why, at)
		}
		if found == "" {
			continue
		}
		return modelToken(p.kind, found, at)
	}
	best := api.Token{}
	for k := api.TokAdd; k <= api.TokColon; k++ {
		if s := lexer.Spell(k); strings.HasPrefix(text[at:], s) && len(s) > best.To-best.From {
			best = api.Token{Kind: k, From: at, To: at + len(s)}
		}
	}
	if best.Kind == 0 {
		return api.Token{}, fault(api.ErrByte, at)
	}
	return best, none
}

func modelToken(kind api.Kind, found string, at int) (api.Token, api.Fault) {
	switch kind {
	case api.TokNumber:
		if !wholeNumber.MatchString(found) {
			return api.Token{}, fault(api.ErrNumber, at)
		}
	case api.TokName:
		if len(found) > api.MaxName {
			return api.Token{}, fault(api.ErrName, at)
		}
		for k := api.TokBreak; k <= api.TokVar; k++ {
			if lexer.Spell(k) == found {
				kind = k
			}
		}
	case api.TokChar, api.TokText:
		if found[0] == '`' {
			break
		}
		for i, r := range found {
			if _, width := utf8.DecodeRuneInString(found[i:]); r == utf8.RuneError && width == 1 {
				return api.Token{}, fault(api.ErrByte, at+i)
			}
		}
	}
	return api.Token{Kind: kind, From: at, To: at + len(found)}, none
}

// modelScan puts the autos in while it goes from the right to the left.
func modelScan(text string) ([]api.Token, api.Fault) {
	var cut, out []api.Token
	for at := 0; at < len(text); {
		p, f := modelPiece(text, at)
		if f != none {
			return nil, f
		}
		cut = append(cut, p)
		at = p.To
	}
	ends := true
	for _, p := range slices.Backward(cut) {
		if p.Kind == api.TokBlanks || p.Kind == api.TokNote {
			ends = ends || strings.Contains(text[p.From:p.To], "\n")
			out = append(out, p)
			continue
		}
		before := p.Kind <= api.TokText || slices.Contains([]string{"break", "continue", "fallthrough", "return", "++", "--", ")", "]", "}"}, text[p.From:p.To])
		if ends && before {
			out = append(out, api.Token{Kind: api.TokAuto, From: p.To, To: p.To})
		}
		out = append(out, p)
		ends = false
	}
	slices.Reverse(out)
	return out, none
}

func TestScanByPatterns(t *testing.T) {
	r := rand.New(rand.NewPCG(2, 1))
	of := bits()
	sound := 0
	for range 60000 {
		s := someSource(r, of)
		got, f := lexer.Scan(s)
		want, wantFault := modelScan(s)
		if !slices.Equal(got, want) || f != wantFault {
			t.Fatalf("2.1: Scan(%q) = %v, %v, want %v, %v", s, got, f, want, wantFault)
		}
		if f == none {
			sound++
		}
	}
	if sound < 5000 {
		t.Errorf("only %d sources had no fault", sound)
	}
}

// TestShortSources takes all sources of one byte and of two.
func TestShortSources(t *testing.T) {
	for a := range 256 {
		for b := range 257 {
			s := string([]byte{byte(a), byte(b)})
			if b == 256 {
				s = s[:1]
			}
			got, f := lexer.Scan(s)
			want, wantFault := modelScan(s)
			if !slices.Equal(got, want) || f != wantFault {
				t.Fatalf("2.1: Scan(%q) = %v, %v, want %v, %v", s, got, f, want, wantFault)
			}
		}
	}
}
