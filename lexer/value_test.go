package lexer_test

import (
	"math"
	"math/rand/v2"
	"strings"
	"testing"

	"moniker/api"
	"moniker/lexer"
)

func TestKind(t *testing.T) {
	for s, want := range map[string]api.Kind{
		"x": api.TokName, "_": api.TokName, "é1": api.TokName, "funcs": api.TokName, "func": api.TokFunc, "return": api.TokReturn,
		"1": api.TokNumber, "0x1": api.TokNumber, "'a'": api.TokChar, "\"a b\"": api.TokText, "`a\nb`": api.TokText, "}": api.TokEnd, "+": api.TokAdd, "...": api.TokDots, ";": api.TokSemi,
	} {
		if k, ok := lexer.Kind(s); k != want || !ok {
			t.Errorf("2.5: Kind(%q) = %d, %v, want %d", s, k, ok, want)
		}
	}
	for _, s := range []string{"", " ", "\n", " x", "x ", "x\n", "//", "/**/", "x//", "/**/x", "a b", "a+", "..", "1.5", "#", "\xff", "'", "00", "é#", "+ ", "-1", strings.Repeat("a", api.MaxName+1)} {
		if k, ok := lexer.Kind(s); k != 0 || ok {
			t.Errorf("2.5: Kind(%q) = %d, %v, want 0, false", s, k, ok)
		}
	}
}

func TestSpell(t *testing.T) {
	const keywords = "break case chan const continue default defer else fallthrough for func go goto if import interface map package range return select struct switch type var"
	const marks = "+ - * / % & | ^ << >> &^ += -= *= /= %= &= |= ^= <<= >>= &^= && || <- ++ -- == < > = ! ~ != <= >= := ... ( ) [ ] { } , . ; :"
	k := api.TokBreak
	for _, s := range strings.Fields(keywords + " " + marks) {
		if got := lexer.Spell(k); got != s {
			t.Errorf("2.6: Spell(%d) = %q, want %q", k, got, s)
		}
		if got, ok := lexer.Kind(s); got != k || !ok {
			t.Errorf("2.12: Kind(%q) = %d, %v, want %d", s, got, ok, k)
		}
		k++
	}
	if k != api.KindCount {
		t.Errorf("2.6: %d kinds were asked for", k)
	}
	for k := range 256 {
		if k >= int(api.TokBreak) && k < int(api.KindCount) {
			continue
		}
		if s := lexer.Spell(api.Kind(k)); s != "" {
			t.Errorf("2.6: Spell(%d) = %q", k, s)
		}
	}
}

func TestIdentifier(t *testing.T) {
	for _, s := range []string{"_", "x", "é", "x1", "__", "日本", "main", "int", "Func", strings.Repeat("a", api.MaxName)} {
		if !lexer.Identifier(s) {
			t.Errorf("2.7: %q is one", s)
		}
	}
	for _, s := range []string{"", "go", "type", "1x", "x ", " x", "x\n", "a.b", "a b", "x//", "+", "'a'", "٣", "\xff", "x\xff", strings.Repeat("a", api.MaxName+1)} {
		if lexer.Identifier(s) {
			t.Errorf("2.7: %q is none", s)
		}
	}
}

func TestNumber(t *testing.T) {
	for s, want := range map[string]int64{
		"0": 0, "7": 7, "7_0": 70, "1_2_3": 123, "0x_fF": 255, "0XA": 10, "0b1": 1, "0B_1_0": 2, "0o17": 15, "0O_7": 7,
		"9223372036854775807": math.MaxInt64, "9_223_372_036_854_775_807": math.MaxInt64, "0x7fffffffffffffff": math.MaxInt64, "0o777777777777777777777": math.MaxInt64,
		"0b" + strings.Repeat("1", 63): math.MaxInt64, "0x" + strings.Repeat("0", 500) + "1": 1,
	} {
		if n, why := lexer.Number(s); n != want || why != api.OK {
			t.Errorf("2.8: Number(%.80q) = %d, %d, want %d", s, n, why, want)
		}
	}
	for _, s := range []string{"9223372036854775808", "9223372036854775810", "18446744073709551616", "0x8000000000000000", "0x10000000000000000", "0o1000000000000000000000", "0b1" + strings.Repeat("0", 63), strings.Repeat("9", 5000)} {
		if n, why := lexer.Number(s); n != 0 || why != api.ErrConst {
			t.Errorf("2.8: Number(%.80q) = %d, %d, want ErrConst", s, n, why)
		}
	}
	for _, s := range []string{"", "-1", "+1", "00", "1_", "0x", "1 ", " 1", "1\n", "1.5", "a", "'1'", "\"1\"", "1é", "\xff"} {
		if n, why := lexer.Number(s); n != 0 || why != api.ErrNumber {
			t.Errorf("2.8: Number(%q) = %d, %d, want ErrNumber", s, n, why)
		}
	}
}

func TestChar(t *testing.T) {
	for s, want := range map[string]int64{
		`'a'`: 97, `'"'`: 34, "'`'": 96, `'é'`: 233, `'日'`: 0x65e5, "'\uFFFD'": 0xfffd, "'\x00'": 0,
		`'\a'`: 7, `'\b'`: 8, `'\t'`: 9, `'\n'`: 10, `'\v'`: 11, `'\f'`: 12, `'\r'`: 13, `'\\'`: 92, `'\''`: 39,
		`'\x41'`: 65, `'\xFf'`: 255, `'\101'`: 65, `'\377'`: 255, `'\000'`: 0, `'\u00e9'`: 233, `'\uFFFD'`: 0xfffd, `'\U0010FFFF'`: 0x10ffff, `'\ud7ff'`: 0xd7ff, `'\ue000'`: 0xe000,
	} {
		if n, why := lexer.Char(s); n != want || why != api.OK {
			t.Errorf("2.8: Char(%s) = %d, %d, want %d", s, n, why, want)
		}
	}
	for _, s := range []string{"", "'", "''", "'ab'", "'a' ", "a", "1", `"a"`, "`a`", `'\"'`, `'\400'`, `'\ud800'`, "'\xff'", "'a''b'"} {
		if n, why := lexer.Char(s); n != 0 || why != api.ErrQuote {
			t.Errorf("2.8: Char(%q) = %d, %d, want ErrQuote", s, n, why)
		}
	}
}

func TestText(t *testing.T) {
	for s, want := range map[string]string{
		`""`: "", `"a\"b"`: "a\"b", `"'"`: "'", `"é日"`: "é日", "\"a\rb\"": "a\rb", "\"\uFFFD\"": "\uFFFD",
		`"\a\b\t\n\v\f\r\\"`: "\a\b\t\n\v\f\r\\", `"\xff\377\x41\101"`: "\xff\xffAA", `"\u00e9\U0001F600"`: "é😀", `"\xc3\xa9"`: "é",
		"``": "", "`a\\n\"'`": "a\\n\"'", "`\r\na\r\r\n`": "\na\n", "`\xff\xc3`": "\xff\xc3",
	} {
		if got, why := lexer.Text(s); got != want || why != api.OK {
			t.Errorf("2.8: Text(%q) = %q, %d, want %q", s, got, why, want)
		}
	}
	for _, s := range []string{"", `"`, "`", `"a" `, `"a""b"`, "`a`b", "a", "1", "'a'", `"\'"`, `"\q"`, "\"\n\"", "\"\xff\""} {
		if got, why := lexer.Text(s); got != "" || why != api.ErrQuote {
			t.Errorf("2.8: Text(%q) = %q, %d, want ErrQuote", s, got, why)
		}
	}
}

func TestQuote(t *testing.T) {
	for s, want := range map[string]string{
		"": `""`, "a\"\\\n\x00é\xff": `"a\"\\\n\x00é\xff"`, "\a\b\t\n\v\f\r": `"\a\b\t\n\v\f\r"`, "'`": "\"'`\"", " ~\x7f\x1b": `" ~\x7f\x1b"`,
		"\uFFFD": "\"\uFFFD\"", "\u0080\u2028😀": "\"\u0080\u2028😀\"", "\xc3": `"\xc3"`, "\xe6\x97x": `"\xe6\x97x"`, "\xed\xa0\x80": `"\xed\xa0\x80"`, "\xc0\x80": `"\xc0\x80"`,
	} {
		if got := lexer.Quote(s); got != want {
			t.Errorf("2.9: Quote(%q) = %s, want %s", s, got, want)
		}
	}
}

func TestQuoteLeadsBack(t *testing.T) {
	r := rand.New(rand.NewPCG(2, 13))
	of := bits()
	for k := range 40000 {
		s := someSource(r, of)
		if k < 256 {
			s = string([]byte{byte(k)})
		}
		if got, why := lexer.Text(lexer.Quote(s)); got != s || why != api.OK {
			t.Fatalf("2.13: Text(Quote(%q)) = %q, %d", s, got, why)
		}
	}
}
