package format

import (
	"strings"

	"moniker/api"
	"moniker/lexer"
)

// needed are the tokens of a source that it can't do without.
func (s *sheet) needed() []word {
	var tokens []int
	for i, p := range s.pieces {
		if isToken(p.Kind) {
			tokens = append(tokens, i)
		}
	}
	var out []word
	for n, i := range tokens {
		k := s.pieces[i].Kind
		switch {
		case !isSemicolon(k):
			out = append(out, word{k, s.spelling(i)})
		case s.spots[i].kept || !s.isSpareAhead(tokens[n+1:]):
			out = append(out, word{api.TokSemi, ";"})
		}
	}
	return out
}

// isSpareAhead tells whether a semicolon may be left out ahead of some tokens.
func (s *sheet) isSpareAhead(tokens []int) bool {
	if len(tokens) == 0 {
		return true
	}
	k := s.pieces[tokens[0]].Kind
	return k == api.TokClose || k == api.TokEnd
}

// seams are how many bytes must stand between two tokens of these kinds. That hangs on nothing else: what may go on a name or a number may go on each of them, and a mark is its kind's.
type seams map[[2]api.Kind]int

// tight writes words with a blank just between two that would not stand for themselves.
func tight(words []word) string {
	var out strings.Builder
	known := seams{}
	for i, w := range words {
		if i > 0 {
			out.WriteString(strings.Repeat(blank, known.between(words[i-1], w)))
		}
		out.WriteString(w.text)
	}
	return out.String()
}

func (s seams) between(a, b word) int {
	kinds := [2]api.Kind{a.kind, b.kind}
	width, ok := s[kinds]
	if !ok {
		if !apart(a.text, b.text) {
			width = 1
		}
		s[kinds] = width
	}
	return width
}

// apart tells whether two words, put together, are cut into the two again.
func apart(a, b string) bool {
	cut, _ := lexer.Scan(a + b)
	return len(cut) > 1 && cut[0].To == len(a) && cut[1].To == len(a)+len(b)
}
