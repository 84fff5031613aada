package lexer

import (
	"math"
	"strings"
	"unicode/utf8"

	"moniker/api"
)

// Escapes of one letter, and what each of them stands for.
const (
	escapeLetters = "abfnrtv"
	escapeValues  = "\a\b\f\n\r\t\v"
)

const hexDigits = "0123456789abcdef"

// item is one item of a character or text: its value, and the place behind it. Exact: its value is a byte as it stands, no rune. Bad: it is a bad byte.
type item struct {
	value      int64
	to         int
	exact, bad bool
}

// itemAt is the item at a place within quotes; false: there is none.
func itemAt(text string, at int, quote byte) (item, bool) {
	switch {
	case at >= len(text) || text[at] == '\n' || text[at] == quote:
		return item{}, false
	case text[at] == '\\':
		return escapeAt(text, at+1, quote)
	}
	r, width := utf8.DecodeRuneInString(text[at:])
	return item{value: int64(r), to: at + width, bad: r == utf8.RuneError && width == 1}, true
}

// escapeAt is the escape whose backslash stands ahead of a place.
func escapeAt(text string, at int, quote byte) (item, bool) {
	if at >= len(text) {
		return item{}, false
	}
	switch c := text[at]; c {
	case 'x':
		return byteAt(text, at+1, 2, 16)
	case 'u':
		return runeAt(text, at+1, 4)
	case 'U':
		return runeAt(text, at+1, 8)
	case '0', '1', '2', '3', '4', '5', '6', '7':
		return byteAt(text, at, 3, 8)
	case '\\', quote:
		return item{value: int64(c), to: at + 1}, true
	default:
		k := strings.IndexByte(escapeLetters, c)
		if k < 0 {
			return item{}, false
		}
		return item{value: int64(escapeValues[k]), to: at + 1}, true
	}
}

// byteAt is a byte that so many digits at a place say.
func byteAt(text string, at, count int, base int64) (item, bool) {
	v, ok := digitsAt(text, at, count, base)
	if !ok || v > math.MaxUint8 {
		return item{}, false
	}
	return item{value: v, to: at + count, exact: true}, true
}

// runeAt is a rune that so many hex digits at a place say.
func runeAt(text string, at, count int) (item, bool) {
	v, ok := digitsAt(text, at, count, 16)
	if !ok || v > utf8.MaxRune || !utf8.ValidRune(rune(v)) {
		return item{}, false
	}
	return item{value: v, to: at + count}, true
}

// digitsAt is what so many digits say, which must all stand there; they are few enough for any base.
func digitsAt(text string, at, count int, base int64) (int64, bool) {
	if len(text)-at < count {
		return 0, false
	}
	n := int64(0)
	for i := range count {
		d := digit(text[at+i])
		if d >= base {
			return 0, false
		}
		n = n*base + d
	}
	return n, true
}

// digit is the value of a digit of base 16 or below; what is none is above all of them.
func digit(c byte) int64 {
	switch {
	case '0' <= c && c <= '9':
		return int64(c - '0')
	case 'a' <= c && c <= 'f':
		return int64(c-'a') + 10
	case 'A' <= c && c <= 'F':
		return int64(c-'A') + 10
	}
	return math.MaxInt64
}

// based tells a number's base and its digits, with the _ between them; of a number with a base's letter a _ may stand ahead of the first digit, which is left out here.
func based(s string) (int64, string) {
	if len(s) < 2 || s[0] != '0' {
		return 10, s
	}
	base := int64(0)
	switch s[1] {
	case 'x', 'X':
		base = 16
	case 'o', 'O':
		base = 8
	case 'b', 'B':
		base = 2
	default:
		return 10, s
	}
	return base, strings.TrimPrefix(s[2:], "_")
}

// isNumber tells whether a run that begins with a digit is a number.
func isNumber(run string) bool {
	base, digits := based(run)
	if base == 10 && run[0] == '0' {
		return run == "0"
	}
	wanted := true
	for i := range len(digits) {
		if digits[i] == '_' && !wanted {
			wanted = true
			continue
		}
		if digit(digits[i]) >= base {
			return false
		}
		wanted = false
	}
	return !wanted
}

// numberValue is the value of what is a number.
func numberValue(s string) (int64, api.Errno) {
	base, digits := based(s)
	n := int64(0)
	for i := range len(digits) {
		if digits[i] == '_' {
			continue
		}
		d := digit(digits[i])
		if n > (math.MaxInt64-d)/base {
			return 0, api.ErrConst
		}
		n = n*base + d
	}
	return n, api.OK
}

// textValue is the value of a text between ": it goes on up to the closing quote, which is no item.
func textValue(s string) string {
	var out []byte
	for one, ok := itemAt(s, 1, '"'); ok; one, ok = itemAt(s, one.to, '"') {
		if one.exact {
			out = append(out, byte(one.value))
		} else {
			out = utf8.AppendRune(out, rune(one.value))
		}
	}
	return string(out)
}

// rawValue is the value of a text between backquotes.
func rawValue(s string) string {
	var out []byte
	for i := 1; i < len(s)-1; i++ {
		if s[i] != '\r' {
			out = append(out, s[i])
		}
	}
	return string(out)
}

// Quote is a text token whose value is s.
func Quote(s string) string {
	out := []byte{'"'}
	for at := 0; at < len(s); {
		_, width := utf8.DecodeRuneInString(s[at:])
		if width > 1 {
			out = append(out, s[at:at+width]...)
		} else {
			out = appendByte(out, s[at])
		}
		at += width
	}
	return string(append(out, '"'))
}

// appendByte adds a byte that is a rune below 128 or a bad byte, as it is written within quotes.
func appendByte(out []byte, c byte) []byte {
	if k := strings.IndexByte(escapeValues, c); k >= 0 {
		return append(out, '\\', escapeLetters[k])
	}
	switch {
	case c == '"' || c == '\\':
		return append(out, '\\', c)
	case ' ' <= c && c <= '~':
		return append(out, c)
	}
	return append(out, '\\', 'x', hexDigits[c>>4], hexDigits[c&15])
}
