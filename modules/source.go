package modules

import (
	"strings"

	"moniker/api"
	"moniker/lexer"
	"moniker/parser"
)

// Source is what was read of a text: its pieces and its tree, or the first fault of one of them. It is never written into, so that programs may share it, and be made of it by several at once.
type Source struct {
	text            string
	tokens          []api.Token
	tree            api.Tree
	uncut, unparsed api.Fault
}

// Read scans and parses a text.
func Read(text string) *Source {
	s := &Source{text: strings.Clone(text)}
	if s.tokens, s.uncut = lexer.Scan(s.text); s.uncut.Why == api.OK {
		s.tree, s.unparsed = parser.Parse(s.text, s.tokens)
	}
	return s
}

// Text is the text that was read.
func (s *Source) Text() string {
	if s == nil {
		return ""
	}
	return s.text
}

// word is what the bytes of a piece are.
func (s *Source) word(token int) string {
	t := s.tokens[token]
	return s.text[t.From:t.To]
}
