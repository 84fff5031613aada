// Package lexer: pieces and tokens: see ../../shared/DOC.md, doc/00-minigo.md (0.1) and doc/02-lexer.md.
package lexer

import (
	"slices"

	"moniker/api"
)

// Scan cuts a source into its pieces.
func Scan(text string) ([]api.Token, api.Fault) {
	cut, _, f := newScanner(text).pieces(0, func(int) bool { return false })
	if f != (api.Fault{}) {
		return nil, f
	}
	return withAutos(text, cut), api.Fault{}
}

// Sound tells whether a list is what Scan gives for a text.
func Sound(text string, l []api.Token) bool {
	cut, f := Scan(text)
	return f == (api.Fault{}) && slices.Equal(cut, l)
}

// Kind is the kind of a text that is one token; false: it is none.
func Kind(s string) (api.Kind, bool) {
	l, _ := Scan(s)
	alone := len(l) == 1 || len(l) == 2 && l[1].Kind == api.TokAuto
	if !alone || !isToken(l[0].Kind) {
		return 0, false
	}
	return l[0].Kind, true
}

// Spell is the spelling of a keyword or mark; "" of other kinds.
func Spell(k api.Kind) string {
	if k >= api.KindCount {
		return ""
	}
	return spellings[k]
}

// Identifier tells whether a text is an identifier.
func Identifier(s string) bool { return isOf(s, api.TokName) }

func isOf(s string, want api.Kind) bool {
	k, ok := Kind(s)
	return ok && k == want
}

// Number is the value of a number.
func Number(s string) (int64, api.Errno) {
	if !isOf(s, api.TokNumber) {
		return 0, api.ErrNumber
	}
	return numberValue(s)
}

// Char is the value of a character.
func Char(s string) (int64, api.Errno) {
	if !isOf(s, api.TokChar) {
		return 0, api.ErrQuote
	}
	one, _ := itemAt(s, 1, '\'')
	return one.value, api.OK
}

// Text is the value of a text.
func Text(s string) (string, api.Errno) {
	if !isOf(s, api.TokText) {
		return "", api.ErrQuote
	}
	if s[0] == '`' {
		return rawValue(s), api.OK
	}
	return textValue(s), api.OK
}
