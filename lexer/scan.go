package lexer

import (
	"strings"
	"sync"
	"unicode"
	"unicode/utf8"

	"moniker/api"
)

// scanner goes through a source.
type scanner struct {
	text   string
	starts []start
	words  map[string]api.Kind
	once   sync.Once
	marks  *branch
}

// start is a row of the table of what may begin at a byte: whether it does, and the piece.
type start struct {
	fits func(at int) bool
	cut  func(at int) (api.Token, api.Fault)
}

func newScanner(text string) *scanner {
	s := &scanner{text: text, words: keywords()}
	s.starts = []start{
		{s.atBlank, s.blanks},
		{s.atNote, s.note},
		{s.atLetter, s.name},
		{s.atDigit, s.number},
		{s.atQuote, s.quoted},
		{s.atMark, s.mark},
	}
	return s
}

// pieces cuts from a place on, up to the source's end or a place from which on all is known; and it tells that place.
func (s *scanner) pieces(at int, known func(at int) bool) ([]api.Token, int, api.Fault) {
	var out []api.Token
next:
	for at < len(s.text) && !known(at) {
		for _, row := range s.starts {
			if !row.fits(at) {
				continue
			}
			p, f := row.cut(at)
			if f != (api.Fault{}) {
				return nil, 0, f
			}
			out = append(out, p)
			at = p.To
			continue next
		}
		return nil, 0, faultAt(api.ErrByte, at)
	}
	return out, at, api.Fault{}
}

func faultAt(why api.Errno, at int) api.Fault { return api.Fault{Why: why, At: at} }

// withAutos puts the semicolons in: behind each token that asks for one, if a line or the source ends ahead of the next token.
func withAutos(text string, cut []api.Token) []api.Token {
	var out []api.Token
next:
	for i, p := range cut {
		out = append(out, p)
		if !asksForAuto(p.Kind) {
			continue
		}
		for _, q := range cut[i+1:] {
			if isToken(q.Kind) {
				continue next
			}
			if strings.Contains(text[q.From:q.To], "\n") {
				break
			}
		}
		out = append(out, api.Token{Kind: api.TokAuto, From: p.To, To: p.To})
	}
	return out
}

func isToken(k api.Kind) bool { return k != api.TokBlanks && k != api.TokNote }

func asksForAuto(k api.Kind) bool {
	switch k {
	case api.TokName, api.TokNumber, api.TokChar, api.TokText,
		api.TokBreak, api.TokContinue, api.TokFallthrough, api.TokReturn,
		api.TokInc, api.TokDec, api.TokClose, api.TokCloseAt, api.TokEnd:
		return true
	}
	return false
}

func (s *scanner) atBlank(at int) bool { return isBlank(s.text[at]) }

func isBlank(c byte) bool { return c == ' ' || c == '\t' || c == '\r' || c == '\n' }

func (s *scanner) blanks(at int) (api.Token, api.Fault) {
	to := at
	for to < len(s.text) && isBlank(s.text[to]) {
		to++
	}
	return api.Token{Kind: api.TokBlanks, From: at, To: to}, api.Fault{}
}

func (s *scanner) atNote(at int) bool {
	return strings.HasPrefix(s.text[at:], "//") || strings.HasPrefix(s.text[at:], "/*")
}

func (s *scanner) note(at int) (api.Token, api.Fault) {
	within := s.text[at+2:]
	if s.text[at+1] == '/' {
		n := strings.IndexByte(within, '\n')
		if n < 0 {
			n = len(within)
		}
		return api.Token{Kind: api.TokNote, From: at, To: at + 2 + n}, api.Fault{}
	}
	n := strings.Index(within, "*/")
	if n < 0 {
		return api.Token{}, faultAt(api.ErrNote, at)
	}
	return api.Token{Kind: api.TokNote, From: at, To: at + 2 + n + 2}, api.Fault{}
}

// atLetter takes a bad byte for no letter, as the rune that stands for it is none.
func (s *scanner) atLetter(at int) bool {
	r, _ := utf8.DecodeRuneInString(s.text[at:])
	return isLetter(r)
}

func isLetter(r rune) bool { return r == '_' || unicode.IsLetter(r) }

// runEnd is the place behind all letters and digits from a place on.
func (s *scanner) runEnd(at int) int {
	for i, r := range s.text[at:] {
		if !isLetter(r) && !unicode.IsDigit(r) {
			return at + i
		}
	}
	return len(s.text)
}

func (s *scanner) name(at int) (api.Token, api.Fault) {
	to := s.runEnd(at)
	if to-at > api.MaxName {
		return api.Token{}, faultAt(api.ErrName, at)
	}
	kind, ok := s.words[s.text[at:to]]
	if !ok {
		kind = api.TokName
	}
	return api.Token{Kind: kind, From: at, To: to}, api.Fault{}
}

func (s *scanner) atDigit(at int) bool { return '0' <= s.text[at] && s.text[at] <= '9' }

func (s *scanner) number(at int) (api.Token, api.Fault) {
	to := s.runEnd(at)
	if !isNumber(s.text[at:to]) {
		return api.Token{}, faultAt(api.ErrNumber, at)
	}
	return api.Token{Kind: api.TokNumber, From: at, To: to}, api.Fault{}
}

func (s *scanner) atQuote(at int) bool {
	c := s.text[at]
	return c == '\'' || c == '"' || c == '`'
}

func (s *scanner) quoted(at int) (api.Token, api.Fault) {
	switch s.text[at] {
	case '`':
		return s.raw(at)
	case '"':
		return s.items(at, api.TokText)
	}
	return s.items(at, api.TokChar)
}

func (s *scanner) raw(at int) (api.Token, api.Fault) {
	n := strings.IndexByte(s.text[at+1:], '`')
	if n < 0 {
		return api.Token{}, faultAt(api.ErrQuote, at)
	}
	return api.Token{Kind: api.TokText, From: at, To: at + 1 + n + 1}, api.Fault{}
}

// items goes from the opening quote at a place to the closing one. A bad byte is told only when all else is right.
func (s *scanner) items(at int, kind api.Kind) (api.Token, api.Fault) {
	quote := s.text[at]
	count, bad := 0, -1
	to := at + 1
	for to < len(s.text) && s.text[to] != quote {
		one, ok := itemAt(s.text, to, quote)
		if !ok {
			return api.Token{}, faultAt(api.ErrQuote, at)
		}
		if one.bad && bad < 0 {
			bad = to
		}
		count++
		to = one.to
	}
	if to == len(s.text) || kind == api.TokChar && count != 1 {
		return api.Token{}, faultAt(api.ErrQuote, at)
	}
	if bad >= 0 {
		return api.Token{}, faultAt(api.ErrByte, bad)
	}
	return api.Token{Kind: kind, From: at, To: to + 1}, api.Fault{}
}

func (s *scanner) tree() *branch {
	s.once.Do(func() { s.marks = markTree() })
	return s.marks
}

func (s *scanner) atMark(at int) bool { return s.tree().on(s.text[at]) != nil }

func (s *scanner) mark(at int) (api.Token, api.Fault) {
	kind, to := s.tree().longest(s.text, at)
	return api.Token{Kind: kind, From: at, To: to}, api.Fault{}
}
