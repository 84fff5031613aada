package lexer_test

import (
	"math/rand/v2"
	"slices"
	"testing"

	"moniker/api"
	"moniker/lexer"
)

// piece is a piece as kind and bytes.
type piece struct {
	kind api.Kind
	text string
}

var none api.Fault

func fault(why api.Errno, at int) api.Fault { return api.Fault{Why: why, At: at} }

// scanned is the list of a source that must have no fault.
func scanned(t *testing.T, text string) []api.Token {
	t.Helper()
	l, f := lexer.Scan(text)
	if f != none {
		t.Fatalf("2.1: Scan(%.60q): %v", text, f)
	}
	return l
}

// shown are the pieces as the chapter's examples write them.
func shown(text string, l []api.Token) []piece {
	var out []piece
	for _, p := range l {
		out = append(out, piece{p.Kind, text[p.From:p.To]})
	}
	return out
}

func kindsOf(l []api.Token) []api.Kind {
	var out []api.Kind
	for _, p := range l {
		out = append(out, p.Kind)
	}
	return out
}

// bits are what sources by chance are made of: what pieces begin with, go on with and end with, right and wrong.
func bits() []string {
	out := []string{
		" ", "\n", "\t", "\r", "  \n", "//", "/*", "*/", "/* x */", "// y\n", "/*\n*/",
		"a", "b1", "_", "é", "日本", "٣", "x٣_", "func", "return", "break", "iff", "Type",
		"0", "1", "7_0", "0x", "0xfF", "0b1", "0o17", "_", "9", "e", "08",
		"'", "'a'", "'\\''", "'é'", "\"", "\"s\"", "\"\\n\\x41\"", "`", "`r\n`", "\\", "\\n", "\\x4", "\\u00e9", "\\ud800", "\\U0010ffff", "\\377", "\\400",
		"\xff", "\xc3", "\xa9", "\xe6\x97", "\uFFFD", "\uFEFF", "#", "@", "$", "?", "\x00", "\x7f", "\u2028",
	}
	for k := range 256 {
		if s := lexer.Spell(api.Kind(k)); s != "" {
			out = append(out, s)
		}
	}
	return out
}

// someSource is a source by chance.
func someSource(r *rand.Rand, of []string) string {
	s := ""
	for range r.IntN(9) {
		s += of[r.IntN(len(of))]
	}
	return s
}

// soundSource is a source by chance that has no fault.
func soundSource(r *rand.Rand, of []string) (string, []api.Token) {
	for {
		s := someSource(r, of)
		if l, f := lexer.Scan(s); f == none {
			return s, slices.Clip(l)
		}
	}
}
