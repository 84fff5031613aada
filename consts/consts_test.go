package consts_test

import (
	"math/big"
	"math/rand/v2"
	"slices"
	"strconv"
	"strings"
	"testing"

	"moniker/api"
	"moniker/consts"
	"moniker/lexer"
)

func TestLiteral(t *testing.T) {
	for _, c := range []struct {
		k    api.Kind
		s    string
		want string
		why  api.Errno
	}{
		{api.TokNumber, "0x10", "16", api.OK}, {api.TokChar, "'a'", "97", api.OK}, {api.TokText, `"a\n"`, `"a\n"`, api.OK}, {api.TokNumber, "9223372036854775808", "", api.ErrConst}, {api.TokName, "x", "", api.ErrArg}, {api.TokNumber, "'a'", "", api.ErrArg},
		{api.TokNumber, "0", "0", api.OK}, {api.TokNumber, "9223372036854775807", "9223372036854775807", api.OK}, {api.TokNumber, "0x7fff_ffff_ffff_ffff", "9223372036854775807", api.OK}, {api.TokNumber, "0x8000000000000000", "", api.ErrConst}, {api.TokNumber, "0b_1_0", "2", api.OK}, {api.TokNumber, "0O17", "15", api.OK}, {api.TokNumber, strings.Repeat("9", 400), "", api.ErrConst},
		{api.TokChar, `'\''`, "39", api.OK}, {api.TokChar, `'\xff'`, "255", api.OK}, {api.TokChar, "'é'", "233", api.OK}, {api.TokChar, `'\U0010ffff'`, "1114111", api.OK},
		{api.TokText, `""`, `""`, api.OK}, {api.TokText, "`a\r\n\\n`", `"a\n\\n"`, api.OK}, {api.TokText, `"\xff\u00e9"`, `"\xffé"`, api.OK}, {api.TokText, "``", `""`, api.OK},
		{api.TokNumber, "", "", api.ErrArg}, {api.TokNumber, "-1", "", api.ErrArg}, {api.TokNumber, "07", "", api.ErrArg}, {api.TokNumber, " 1", "", api.ErrArg}, {api.TokNumber, "1 ", "", api.ErrArg}, {api.TokNumber, "1\n", "", api.ErrArg}, {api.TokNumber, "1.5", "", api.ErrArg}, {api.TokNumber, `"1"`, "", api.ErrArg},
		{api.TokChar, "''", "", api.ErrArg}, {api.TokChar, "97", "", api.ErrArg}, {api.TokChar, `"a"`, "", api.ErrArg}, {api.TokChar, "'\xff'", "", api.ErrArg}, {api.TokChar, `'\"'`, "", api.ErrArg},
		{api.TokText, `"`, "", api.ErrArg}, {api.TokText, "'a'", "", api.ErrArg}, {api.TokText, "\"\xff\"", "", api.ErrArg}, {api.TokText, "`", "", api.ErrArg}, {api.TokText, "true", "", api.ErrArg},
		{api.TokName, "true", "", api.ErrArg}, {api.TokName, "iota", "", api.ErrArg}, {api.TokAdd, "+", "", api.ErrArg}, {api.TokFunc, "func", "", api.ErrArg}, {api.TokBlanks, " ", "", api.ErrArg}, {api.TokBlanks, "", "", api.ErrArg}, {api.TokNote, "//", "", api.ErrArg}, {api.TokAuto, "", "", api.ErrArg}, {api.TokAuto, "1", "", api.ErrArg}, {api.KindCount, "1", "", api.ErrArg}, {255, "1", "", api.ErrArg},
	} {
		v, e := consts.Literal(c.k, c.s)
		answers(t, "8.1: "+c.s, v, e, c.want, c.why)
	}
}

// TestLiteralOfEveryKind: a token's own kind alone makes a value of it, and only if it is one of the three (8.1).
func TestLiteralOfEveryKind(t *testing.T) {
	for _, s := range []string{"1", "0x_ff", "'a'", `"a"`, "`b`", "9223372036854775808", "x", "_", "if", "+", "(", ";", "//", " ", "", "a b", "'", "\xff"} {
		own, one := lexer.Kind(s)
		for k := range 256 {
			v, e := consts.Literal(api.Kind(k), s)
			want := api.ErrArg
			if one && own == api.Kind(k) && slices.Contains([]api.Kind{api.TokNumber, api.TokChar, api.TokText}, own) {
				want = api.OK
			}
			if want == api.OK && s == "9223372036854775808" {
				want = api.ErrConst
			}
			if e != want || (e != api.OK) != (v == api.Val{}) {
				t.Errorf("8.1: Literal(%d, %q): %v, %d, not %d", k, s, v, e, want)
			}
		}
	}
}

// TestLiteralsValue: a literal's value is what lexer says (8.1).
func TestLiteralsValue(t *testing.T) {
	r := chance(1)
	for range 3000 {
		n, s := r.Int64()>>r.IntN(63), anyText(r)
		for _, c := range []struct {
			k    api.Kind
			s    string
			want api.Val
		}{
			{api.TokNumber, strconv.FormatInt(n, 10), number(n)}, {api.TokNumber, "0x" + strconv.FormatInt(n, 16), number(n)}, {api.TokNumber, "0b" + strconv.FormatInt(n, 2), number(n)}, {api.TokNumber, "0o_" + strconv.FormatInt(n, 8), number(n)},
			{api.TokText, lexer.Quote(s), text(s)}, {api.TokChar, `'\x` + strconv.FormatInt(256+n%256, 16)[1:] + "'", number(n % 256)},
		} {
			if v, e := consts.Literal(c.k, c.s); e != api.OK || v != c.want {
				t.Fatalf("8.1: %s: %v, %d, not %v", c.s, v, e, c.want)
			}
		}
	}
}

func TestShowAndRead(t *testing.T) {
	for _, c := range []struct {
		v    api.Val
		want string
	}{
		{truth(true), "true"}, {truth(false), "false"}, {number(0), "0"}, {number(-1), "-1"}, {number(7), "7"}, {number(100), "100"}, {number(1<<63 - 1), "9223372036854775807"}, {number(-1 << 63), "-9223372036854775808"},
		{text(""), `""`}, {text("a\"b\n"), `"a\"b\n"`}, {text("\\\x00é\xff"), `"\\\x00é\xff"`}, {text("true"), `"true"`}, {text("1"), `"1"`}, {text("\xc3\xa9"), `"é"`}, {text("\xa9\xc3"), `"\xa9\xc3"`},
	} {
		if got := consts.Show(c.v); got != c.want {
			t.Errorf("8.4: Show(%+v) = %s, not %s", c.v, got, c.want)
		}
		if v, e := consts.Read(c.want); v != c.v || e != api.OK {
			t.Errorf("8.5: Read(%s) = %+v, %d, not %+v", c.want, v, e, c.v)
		}
	}
	for _, v := range wrongs() {
		if got := consts.Show(v); got != "" {
			t.Errorf("8.4: Show(%+v) = %q", v, got)
		}
	}
}

func TestReadRefuses(t *testing.T) {
	for _, s := range []string{
		"", " ", "007", "01", "+1", "-0", "0x1", "1_0", "-", "--1", "- 1", " 1", "1 ", "1\n", "1.", "1e3", "00", "-01", "+0", "9223372036854775808", "-9223372036854775809", strings.Repeat("1", 50), "١",
		"'a'", "`a`", "``", `"`, `"a`, `a"`, `"a"b"`, `"a" `, ` "a"`, `"a""b"`, "\"\n\"", `"\x41"`, `"\u00e9"`, `"\xc3\xa9"`, `"\101"`, `"\xFF"`, `"\x0a"`, `"\'"`, "\"\xff\"", "\"\x00\"", `"\U0010ffff"`, "\"\x7f\"", `"\q"`, "\"\t\"",
		"True", "TRUE", "t", "f", "tru", "truetrue", "false ", "iota", "nil", "x", "//", "\x00", "\xff", "true\x00", "0\x00",
	} {
		if v, e := consts.Read(s); e != api.ErrArg || v != (api.Val{}) {
			t.Errorf("8.5: Read(%q): %+v, %d", s, v, e)
		}
	}
}

// TestThereAndBack: Read takes what Show writes of right values, and nothing else (8.5, 8.8).
func TestThereAndBack(t *testing.T) {
	r := chance(2)
	values := rights()
	for range 4000 {
		values = append(values, anyRight(r))
	}
	for _, v := range values {
		s := consts.Show(v)
		if w, e := consts.Read(s); w != v || e != api.OK {
			t.Fatalf("8.8: Read(Show(%+v)) = %+v, %d", v, w, e)
		}
		s = spoiled(r, s)
		v, e := consts.Read(s)
		if e != api.OK && e != api.ErrArg || e != api.OK && v != (api.Val{}) || e == api.OK && consts.Show(v) != s {
			t.Fatalf("8.8: Show(Read(%q)) = %q, %d", s, consts.Show(v), e)
		}
		if e == api.OK && !decimal(s) && s != "true" && s != "false" && s[0] != '"' {
			t.Fatalf("8.5: Read(%q) = %+v", s, v)
		}
	}
}

// spoiled is a text with a byte changed, put in or left out.
func spoiled(r *rand.Rand, s string) string {
	at := r.IntN(len(s))
	put := "0123456789-+\"\\xtn_\n"
	one := put[r.IntN(len(put)):][:1]
	switch r.IntN(3) {
	case 0:
		return s[:at] + one + s[at:]
	case 1:
		return s[:at] + one + s[at+1:]
	}
	return s[:at] + s[at+1:]
}

// decimal tells whether a text is a whole number of 64 bits in its shortest form.
func decimal(s string) bool {
	n, ok := new(big.Int).SetString(s, 10)
	return ok && n.IsInt64() && n.String() == s
}

func TestLess(t *testing.T) {
	for _, c := range []struct {
		a, b api.Val
		want bool
	}{
		{truth(false), truth(true), true}, {truth(true), truth(false), false}, {truth(true), truth(true), false}, {truth(false), truth(false), false},
		{number(1), text("a"), false}, {text("a"), number(1), false}, {truth(false), number(1), false}, {number(0), truth(true), false}, {truth(false), text("a"), false}, {text(""), truth(true), false},
		{api.Val{}, number(1), false}, {number(1), api.Val{}, false}, {api.Val{}, api.Val{}, false},
		{number(-1), number(1), true}, {number(1), number(-1), false}, {number(-1 << 63), number(1<<63 - 1), true}, {number(1<<63 - 1), number(-1 << 63), false}, {number(4), number(4), false},
		{text("a"), text("a"), false}, {text("a"), text("ab"), true}, {text("b"), text("ab"), false}, {text(""), text("\x00"), true}, {text("é"), text("\xff"), true}, {text("Z"), text("a"), true},
	} {
		if got := consts.Less(c.a, c.b); got != c.want {
			t.Errorf("8.6: Less(%+v, %+v) = %t", c.a, c.b, got)
		}
	}
	for _, w := range wrongs() {
		for _, v := range append(rights(), w) {
			if consts.Less(w, v) || consts.Less(v, w) {
				t.Errorf("8.6: %+v is wrong, and less or greater than %+v", w, v)
			}
		}
	}
}

// TestStrictOrder: of two unlike values of a sort just one is less, and what is less goes on (8.9).
func TestStrictOrder(t *testing.T) {
	r := chance(3)
	for range 20000 {
		a, b, c := anyRight(r), anyRight(r), anyRight(r)
		ahead, behind := consts.Less(a, b), consts.Less(b, a)
		if want := a.Sort == b.Sort && a != b; (ahead != behind) != want || ahead && behind {
			t.Fatalf("8.9: %+v, %+v: %t, %t", a, b, ahead, behind)
		}
		if ahead && consts.Less(b, c) && !consts.Less(a, c) {
			t.Fatalf("8.9: %+v, %+v, %+v", a, b, c)
		}
	}
}
