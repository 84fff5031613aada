package lexer_test

import (
	"math/rand/v2"
	"slices"
	"strings"
	"testing"

	"moniker/api"
	"moniker/lexer"
)

func TestScan(t *testing.T) {
	const (
		blanks, note, name, number, char, text, auto = api.TokBlanks, api.TokNote, api.TokName, api.TokNumber, api.TokChar, api.TokText, api.TokAuto
	)
	for _, c := range []struct {
		text string
		want []piece
	}{
		{"", nil},
		{"a := 1 // x\n", []piece{{name, "a"}, {blanks, " "}, {api.TokNew, ":="}, {blanks, " "}, {number, "1"}, {auto, ""}, {blanks, " "}, {note, "// x"}, {blanks, "\n"}}},
		{" \t\r\n", []piece{{blanks, " \t\r\n"}}},
		{"}", []piece{{api.TokEnd, "}"}, {auto, ""}}},
		{"+", []piece{{api.TokAdd, "+"}}},
		{"x /* a\n */ y", []piece{{name, "x"}, {auto, ""}, {blanks, " "}, {note, "/* a\n */"}, {blanks, " "}, {name, "y"}, {auto, ""}}},
		{"x /* a */ y", []piece{{name, "x"}, {blanks, " "}, {note, "/* a */"}, {blanks, " "}, {name, "y"}, {auto, ""}}},
		{"x /* a */ // b\ny+", []piece{{name, "x"}, {auto, ""}, {blanks, " "}, {note, "/* a */"}, {blanks, " "}, {note, "// b"}, {blanks, "\n"}, {name, "y"}, {api.TokAdd, "+"}}},
		{"+ // a\n/**/", []piece{{api.TokAdd, "+"}, {blanks, " "}, {note, "// a"}, {blanks, "\n"}, {note, "/**/"}}},
		{"/**/x//", []piece{{note, "/**/"}, {name, "x"}, {auto, ""}, {note, "//"}}},
		{"a<<=b&^=c...", []piece{{name, "a"}, {api.TokShlIs, "<<="}, {name, "b"}, {api.TokAndNotIs, "&^="}, {name, "c"}, {api.TokDots, "..."}}},
		{"<-< -", []piece{{api.TokArrow, "<-"}, {api.TokLt, "<"}, {blanks, " "}, {api.TokSub, "-"}}},
		{"..", []piece{{api.TokDot, "."}, {api.TokDot, "."}}},
		{".....", []piece{{api.TokDots, "..."}, {api.TokDot, "."}, {api.TokDot, "."}}},
		{"&^^=&&&", []piece{{api.TokAndNot, "&^"}, {api.TokXorIs, "^="}, {api.TokBoth, "&&"}, {api.TokAnd, "&"}}},
		{"1.5", []piece{{number, "1"}, {api.TokDot, "."}, {number, "5"}, {auto, ""}}},
		{"é_٣+日", []piece{{name, "é_٣"}, {api.TokAdd, "+"}, {name, "日"}, {auto, ""}}},
		{"//\xff\n/*\xff*/`\xff\n\r`", []piece{{note, "//\xff"}, {blanks, "\n"}, {note, "/*\xff*/"}, {text, "`\xff\n\r`"}, {auto, ""}}},
		{"'a'\"b\"``'\\''", []piece{{char, "'a'"}, {text, "\"b\""}, {text, "``"}, {char, "'\\''"}, {auto, ""}}},
		{"\"//\"/*\"*/", []piece{{text, "\"//\""}, {auto, ""}, {note, "/*\"*/"}}},
		{"// a\r\n//b", []piece{{note, "// a\r"}, {blanks, "\n"}, {note, "//b"}}},
	} {
		l := scanned(t, c.text)
		if got := shown(c.text, l); !slices.Equal(got, c.want) {
			t.Errorf("2.1: Scan(%q) = %v, want %v", c.text, got, c.want)
		}
		at := 0
		for _, p := range l {
			if p.From != at {
				t.Errorf("2.1: Scan(%q): a gap at %d", c.text, at)
			}
			at = p.To
		}
	}
}

func TestScanFaults(t *testing.T) {
	name := strings.Repeat("n", api.MaxName)
	wide := strings.Repeat("é", api.MaxName/2)
	for _, s := range []string{name, wide} {
		if l := scanned(t, s); len(l) != 2 || l[0] != (api.Token{Kind: api.TokName, To: api.MaxName}) {
			t.Errorf("2.2: a name of MaxName bytes: %v", l)
		}
	}
	for _, c := range []struct {
		text string
		why  api.Errno
		at   int
	}{
		{name + "n", api.ErrName, 0}, {"+" + wide + "é", api.ErrName, 1}, {"+" + wide + "1", api.ErrName, 1},
		{name + "n\xff", api.ErrName, 0}, {name + "\xff", api.ErrByte, api.MaxName},
		{"a # b", api.ErrByte, 2}, {"a\x00", api.ErrByte, 1}, {"\xff", api.ErrByte, 0}, {"a\xffb", api.ErrByte, 1}, {"a\xc3", api.ErrByte, 1},
		{"\uFEFFa", api.ErrByte, 0}, {"٣", api.ErrByte, 0}, {"a\uFFFD", api.ErrByte, 1}, {"\\", api.ErrByte, 0}, {"\v", api.ErrByte, 0}, {"\u00a0", api.ErrByte, 0},
		{"1\xff", api.ErrByte, 1},
		{"/*", api.ErrNote, 0}, {"x /*/", api.ErrNote, 2}, {"/* * /", api.ErrNote, 0}, {"/**/ /*", api.ErrNote, 5},
		{"# 00 '", api.ErrByte, 0}, {"00 # '", api.ErrNumber, 0}, {"' 00 #", api.ErrQuote, 0},
	} {
		if l, f := lexer.Scan(c.text); len(l) != 0 || f != fault(c.why, c.at) {
			t.Errorf("2.2: Scan(%.40q) = %v, %v, want %d at %d", c.text, l, f, c.why, c.at)
		}
	}
}

func TestScanNumbers(t *testing.T) {
	for _, s := range []string{"0", "7", "10", "7_0", "1_2_3", "0x0", "0x_fF", "0X1f", "0b1", "0B_0_1", "0o17", "0O7_7", "0x00", "0b00", "99999999999999999999999999"} {
		if l := scanned(t, s); len(l) != 2 || l[0].Kind != api.TokNumber || l[0].To != len(s) {
			t.Errorf("2.2: Scan(%q) = %v", s, l)
		}
	}
	for _, s := range []string{"00", "07", "0_1", "0_", "1_", "1__0", "0x", "0x_", "0x__1", "0x1_", "0x1__2", "0b2", "0b", "0o8", "0o", "0X", "0xg", "0x1g", "12ab", "1é", "1٣", "1e5", "0x٣", "1i", "0b1_2"} {
		if l, f := lexer.Scan("+" + s); len(l) != 0 || f != fault(api.ErrNumber, 1) {
			t.Errorf("2.2: Scan(%q) = %v, %v, want ErrNumber at 1", "+"+s, l, f)
		}
	}
}

func TestScanQuotes(t *testing.T) {
	for s, kind := range map[string]api.Kind{
		"'a'": api.TokChar, "'\"'": api.TokChar, "'`'": api.TokChar, "'日'": api.TokChar, "'\uFFFD'": api.TokChar, "'\t'": api.TokChar, "'\x00'": api.TokChar,
		`'\\'`: api.TokChar, `'\''`: api.TokChar, `'\a'`: api.TokChar, `'\U0010ffff'`: api.TokChar, `'\uD7FF'`: api.TokChar, `'\000'`: api.TokChar,
		`""`: api.TokText, `"'"`: api.TokText, "\"`\r\"": api.TokText, `"\"\\\a\b\f\n\r\t\v\x00\377\u00e9\U0001F600"`: api.TokText,
		"``": api.TokText, "`\\`": api.TokText, "`'\"\n\xff`": api.TokText,
	} {
		if l := scanned(t, s); len(l) != 2 || l[0].Kind != kind || l[0].To != len(s) {
			t.Errorf("2.2: Scan(%q) = %v", s, l)
		}
	}
	for _, s := range []string{
		"'", "''", "'''", "'ab'", "'\n'", "'a", "'a\n'", `'\"'`, `'\`, `'\'`, `'\x4'`, `'\x4g'`, `'\u12'`, `'\u123g'`, `'\ud800'`, `'\uDFFF'`, `'\U00110000'`, `'\UFFFFFFFF'`, `'\U0001F60'`,
		`'\400'`, `'\777'`, `'\08'`, `'\01'`, `'\8'`, `'\q'`, `'\A'`, `'\x`, `'\01`, `'\u`, `'\ `,
		`"`, `"a`, "\"a\nb\"", `"\'"`, `"\q"`, `"\`, `"\"`, `"\400"`, `"\x1"`, "\"\\\n\"", "`", "`a\n", "\"\xff", "\"\xff\n\"", "\"\xff\\q\"", "'a\xff'", "'\xff\xff'", "'\xe6\x97'", "'\xff", `"\x` + "\xff" + `1"`,
	} {
		if l, f := lexer.Scan("(" + s); len(l) != 0 || f != fault(api.ErrQuote, 1) {
			t.Errorf("2.2: Scan(%q) = %v, %v, want ErrQuote at 1", "("+s, l, f)
		}
	}
	for s, at := range map[string]int{"\"\xff\"": 1, "'\xff'": 1, "\"aé\xff\xfe\"": 4, "\"\\n\xc3\"": 3, "\"\xed\xa0\x80\"": 1} {
		if l, f := lexer.Scan(s); len(l) != 0 || f != fault(api.ErrByte, at) {
			t.Errorf("2.2: Scan(%q) = %v, %v, want ErrByte at %d", s, l, f, at)
		}
	}
}

// TestAutos asks of every kind whether a semicolon is put in behind it.
func TestAutos(t *testing.T) {
	asking := []string{"a", "_", "1", "'a'", "\"\"", "``", "break", "continue", "fallthrough", "return", "++", "--", ")", "]", "}"}
	others := []string{}
	for k := range 256 {
		if s := lexer.Spell(api.Kind(k)); s != "" && !slices.Contains(asking, s) {
			others = append(others, s)
		}
	}
	if len(others) != 64 {
		t.Errorf("%d keywords and marks ask for none", len(others))
	}
	gaps := map[string]bool{"": true, "\n": true, " \n ": true, "/*\n*/": true, " // x": true, "\n;": true, "// x\n;": true, " ;": false, "/* */;": false, " /* */ /* */ ;": false, "/* */\n;": true}
	for _, s := range slices.Concat(asking, others) {
		for gap, ends := range gaps {
			l := scanned(t, s+gap)
			want := ends && slices.Contains(asking, s)
			got := len(l) > 1 && l[1] == api.Token{Kind: api.TokAuto, From: len(s), To: len(s)}
			n := strings.Count(string(kindsBytes(l)), string([]byte{byte(api.TokAuto)}))
			if got != want || want && n != 1 || !want && n != 0 {
				t.Errorf("2.1: autos of %q: %v", s+gap, l)
			}
		}
	}
}

func kindsBytes(l []api.Token) []byte {
	var out []byte
	for _, k := range kindsOf(l) {
		out = append(out, byte(k))
	}
	return out
}

// TestAnyLength: no limit counts the pieces of Scan, or the bytes of comments and literals.
func TestAnyLength(t *testing.T) {
	n := 3 * api.MaxPieces
	if l := scanned(t, strings.Repeat("a ", n)); len(l) != 2*n+1 {
		t.Errorf("2.1: %d pieces", len(l))
	}
	for _, s := range []string{"//" + strings.Repeat("x", n), "/*" + strings.Repeat("\n", n) + "*/", strings.Repeat(" ", n)} {
		if l := scanned(t, s); len(l) != 1 {
			t.Errorf("2.1: %d pieces", len(l))
		}
	}
	for _, s := range []string{"\"" + strings.Repeat("é", n) + "\"", "`" + strings.Repeat("\n", n) + "`", strings.Repeat("1", n), "0x" + strings.Repeat("0", n)} {
		if l := scanned(t, s); len(l) != 2 {
			t.Errorf("2.1: %d pieces", len(l))
		}
	}
}

// TestScanFollows: what the chapter says follows, on sources by chance.
func TestScanFollows(t *testing.T) {
	r := rand.New(rand.NewPCG(2, 10))
	of := bits()
	for range 20000 {
		s, l := soundSource(r, of)
		at := 0
		for i, p := range l {
			if p.From != at || (p.From == p.To) != (p.Kind == api.TokAuto) {
				t.Fatalf("2.10: Scan(%q) = %v", s, l)
			}
			if i > 0 && p.Kind == api.TokBlanks && l[i-1].Kind == api.TokBlanks {
				t.Fatalf("2.10: Scan(%q): blanks side by side", s)
			}
			at = p.To
			if p.Kind == api.TokBlanks || p.Kind == api.TokNote || p.Kind == api.TokAuto {
				continue
			}
			if k, ok := lexer.Kind(s[p.From:p.To]); k != p.Kind || !ok {
				t.Fatalf("2.11: Kind(%q) = %d, %v", s[p.From:p.To], k, ok)
			}
		}
		if at != len(s) {
			t.Fatalf("2.10: Scan(%q) ends at %d", s, at)
		}
	}
}

// TestSeam: 2.14.
func TestSeam(t *testing.T) {
	r := rand.New(rand.NewPCG(2, 14))
	of := bits()
	for range 20000 {
		a, la := soundSource(r, of)
		b, lb := soundSource(r, of)
		want := shown(a, la)
		seam := "\n"
		// Autos at a's end stand ahead of the blanks and comments there, as before.
		if n := len(want); n > 0 && want[n-1].kind == api.TokBlanks {
			seam = want[n-1].text + seam
			want = want[:n-1]
		}
		right := shown(b, lb)
		if len(right) > 0 && right[0].kind == api.TokBlanks {
			seam += right[0].text
			right = right[1:]
		}
		want = append(append(want, piece{api.TokBlanks, seam}), right...)
		s := a + "\n" + b
		if got := shown(s, scanned(t, s)); !slices.Equal(got, want) {
			t.Fatalf("2.14: Scan(%q) = %v, want %v", s, got, want)
		}
	}
}

// TestOtherName: 2.15.
func TestOtherName(t *testing.T) {
	r := rand.New(rand.NewPCG(2, 15))
	of := bits()
	names := []string{"z", "_", "é", "日本語", "breaks", "x1", strings.Repeat("q", api.MaxName)}
	for range 20000 {
		s, l := soundSource(r, of)
		for i, p := range l {
			if p.Kind != api.TokName {
				continue
			}
			to := names[r.IntN(len(names))]
			moved := len(to) - (p.To - p.From)
			want := slices.Clone(l)
			want[i].To += moved
			for k := i + 1; k < len(want); k++ {
				want[k].From += moved
				want[k].To += moved
			}
			if got := scanned(t, s[:p.From]+to+s[p.To:]); !slices.Equal(got, want) {
				t.Fatalf("2.15: %q with %q at %d: %v", s, to, p.From, got)
			}
		}
	}
}
