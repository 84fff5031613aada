package consts_test

import (
	"fmt"
	"math"
	"math/bits"
	"slices"
	"strings"
	"testing"

	"moniker/api"
	"moniker/consts"
)

func TestUnary(t *testing.T) {
	for _, c := range []struct {
		op   string
		v    string
		want string
		why  api.Errno
	}{
		{"-", "-9223372036854775808", "", api.ErrConst}, {"^", "5", "-6", api.OK}, {"!", "true", "false", api.OK}, {"!", "1", "", api.ErrMix}, {"*", "1", "", api.ErrArg}, {"-", "", "", api.ErrArg},
		{"+", "5", "5", api.OK}, {"+", "-9223372036854775808", "-9223372036854775808", api.OK}, {"-", "5", "-5", api.OK}, {"-", "0", "0", api.OK}, {"-", "-9223372036854775807", "9223372036854775807", api.OK}, {"-", "9223372036854775807", "-9223372036854775807", api.OK},
		{"^", "-9223372036854775808", "9223372036854775807", api.OK}, {"^", "9223372036854775807", "-9223372036854775808", api.OK}, {"^", "0", "-1", api.OK}, {"^", "-1", "0", api.OK}, {"!", "false", "true", api.OK},
		{"+", "true", "", api.ErrMix}, {"-", "false", "", api.ErrMix}, {"^", "true", "", api.ErrMix}, {"+", `"a"`, "", api.ErrMix}, {"-", `"a"`, "", api.ErrMix}, {"^", `""`, "", api.ErrMix}, {"!", `"true"`, "", api.ErrMix},
		{"+", "", "", api.ErrArg}, {"!", "", "", api.ErrArg}, {"&", "1", "", api.ErrArg}, {"==", "true", "", api.ErrArg}, {"<<", `"a"`, "", api.ErrArg},
	} {
		v, e := consts.Unary(marks[c.op], read(t, c.v))
		answers(t, "8.2: "+c.op+c.v, v, e, c.want, c.why)
	}
}

// TestUnaryOfEverything: every kind with every value, right and wrong, by 8.2's words.
func TestUnaryOfEverything(t *testing.T) {
	for k := range 256 {
		op := api.Kind(k)
		isOne := op == api.TokAdd || op == api.TokSub || op == api.TokXor || op == api.TokNot
		for _, v := range rights() {
			got, e := consts.Unary(op, v)
			want, why := api.Val{}, api.OK
			switch {
			case !isOne:
				why = api.ErrArg
			case op == api.TokNot && v.Sort != api.SortBool, op != api.TokNot && v.Sort != api.SortInt:
				why = api.ErrMix
			case op == api.TokSub && v.Int == math.MinInt64:
				why = api.ErrConst
			case op == api.TokNot:
				want = truth(!v.Bool)
			case op == api.TokAdd:
				want = v
			case op == api.TokSub:
				want = number(-v.Int)
			default:
				want = number(^v.Int)
			}
			if got != want || e != why {
				t.Fatalf("8.2: %d of %+v: %+v, %d; not %+v, %d", k, v, got, e, want, why)
			}
		}
		for _, v := range wrongs() {
			if got, e := consts.Unary(op, v); e != api.ErrArg || got != (api.Val{}) {
				t.Fatalf("8.2: %d of %+v: %+v, %d", k, v, got, e)
			}
		}
	}
}

func TestBinary(t *testing.T) {
	for _, c := range []struct {
		s, want string
		why     api.Errno
	}{
		{"9223372036854775807 + 1", "", api.ErrConst}, {"-9223372036854775808 + -1", "", api.ErrConst}, {"3037000500 * 3037000500", "", api.ErrConst}, {"3037000499 * 3037000499", "9223372030926249001", api.OK}, {"-9223372036854775808 * -1", "", api.ErrConst},
		{"9223372036854775806 + 1", "9223372036854775807", api.OK}, {"-9223372036854775807 + -1", "-9223372036854775808", api.OK}, {"-9223372036854775808 - 1", "", api.ErrConst}, {"9223372036854775807 - -1", "", api.ErrConst}, {"0 - -9223372036854775808", "", api.ErrConst}, {"-1 - -9223372036854775808", "9223372036854775807", api.OK}, {"-9223372036854775808 - -9223372036854775808", "0", api.OK},
		{"4611686018427387904 * 2", "", api.ErrConst}, {"4611686018427387904 * -2", "-9223372036854775808", api.OK}, {"4294967296 * 4294967296", "", api.ErrConst}, {"9223372036854775807 * 9223372036854775807", "", api.ErrConst}, {"-9223372036854775808 * -9223372036854775808", "", api.ErrConst}, {"-9223372036854775808 * 0", "0", api.OK}, {"-9223372036854775808 * 1", "-9223372036854775808", api.OK},
		{"-7 / 2", "-3", api.OK}, {"-7 % 2", "-1", api.OK}, {"7 / -2", "-3", api.OK}, {"7 % -2", "1", api.OK}, {"1 / 0", "", api.ErrConst}, {"1 % 0", "", api.ErrConst}, {"0 / 0", "", api.ErrConst}, {"0 % 0", "", api.ErrConst}, {"-9223372036854775808 / -1", "", api.ErrConst}, {"-9223372036854775808 % -1", "0", api.OK}, {"-9223372036854775808 / 1", "-9223372036854775808", api.OK}, {"-7 / -2", "3", api.OK}, {"-7 % -2", "-1", api.OK}, {"9223372036854775807 / -9223372036854775808", "0", api.OK},
		{"1 << 62", "4611686018427387904", api.OK}, {"1 << 63", "", api.ErrConst}, {"-1 << 63", "-9223372036854775808", api.OK}, {"0 << 63", "0", api.OK}, {"1 << 64", "", api.ErrConst}, {"1 << -1", "", api.ErrConst}, {"0 << 64", "", api.ErrConst}, {"0 << -1", "", api.ErrConst}, {"-2 << 63", "", api.ErrConst}, {"-3 << 62", "", api.ErrConst}, {"-9223372036854775808 << 0", "-9223372036854775808", api.OK}, {"-9223372036854775808 << 1", "", api.ErrConst}, {"1 << 9223372036854775807", "", api.ErrConst}, {"1 << -9223372036854775808", "", api.ErrConst},
		{"-1 >> 63", "-1", api.OK}, {"-5 >> 1", "-3", api.OK}, {"5 >> 1", "2", api.OK}, {"9223372036854775807 >> 63", "0", api.OK}, {"-9223372036854775808 >> 63", "-1", api.OK}, {"-9223372036854775808 >> 0", "-9223372036854775808", api.OK}, {"1 >> 64", "", api.ErrConst}, {"-1 >> -1", "", api.ErrConst}, {"0 >> 9223372036854775807", "", api.ErrConst},
		{"12 &^ 10", "4", api.OK}, {"-1 & 255", "255", api.OK}, {"5 ^ -1", "-6", api.OK}, {"12 | 3", "15", api.OK}, {"-9223372036854775808 | 9223372036854775807", "-1", api.OK}, {"-1 &^ 9223372036854775807", "-9223372036854775808", api.OK}, {"-9223372036854775808 & 9223372036854775807", "0", api.OK}, {"-9223372036854775808 ^ -1", "9223372036854775807", api.OK},
		{`"a" + "b"`, `"ab"`, api.OK}, {`"a" < "ab"`, "true", api.OK}, {`"b" < "ab"`, "false", api.OK}, {`"a" - "b"`, "", api.ErrMix}, {`"a" + 1`, "", api.ErrMix}, {`"" == ""`, "true", api.OK}, {`"" + ""`, `""`, api.OK}, {`"\xc3" + "\xa9"`, `"é"`, api.OK}, {`"" < ""`, "false", api.OK}, {`"" <= ""`, "true", api.OK}, {`"é" > "z"`, "true", api.OK}, {`"a" != "b"`, "true", api.OK}, {`"a" >= "b"`, "false", api.OK},
		{"true && false", "false", api.OK}, {"true == false", "false", api.OK}, {"true < false", "", api.ErrMix}, {"true + true", "", api.ErrMix}, {"true && true", "true", api.OK}, {"false || false", "false", api.OK}, {"false || true", "true", api.OK}, {"true != false", "true", api.OK}, {"false == false", "true", api.OK}, {"true >= true", "", api.ErrMix},
		{"1 < 2", "true", api.OK}, {"2 <= 2", "true", api.OK}, {"2 > 2", "false", api.OK}, {"2 >= 2", "true", api.OK}, {"-9223372036854775808 < 9223372036854775807", "true", api.OK}, {"1 == 1", "true", api.OK}, {"1 != 1", "false", api.OK},
		{"1 && 1", "", api.ErrMix}, {"1 || 0", "", api.ErrMix}, {`"a" && "b"`, "", api.ErrMix}, {`1 == "1"`, "", api.ErrMix}, {"true == 1", "", api.ErrMix}, {`true && "true"`, "", api.ErrMix}, {"1 / true", "", api.ErrMix}, {`1 << "a"`, "", api.ErrMix}, {"1 ! 1", "", api.ErrArg}, {"true ! 1", "", api.ErrArg},
	} {
		word := strings.Fields(c.s)
		v, e := consts.Binary(marks[word[1]], read(t, word[0]), read(t, word[2]))
		answers(t, "8.3: "+c.s, v, e, c.want, c.why)
	}
}

// TestBinaryOfEverything: every kind with values of every pair of sorts, by the first lines of 8.3.
func TestBinaryOfEverything(t *testing.T) {
	sorts := []api.Val{truth(true), number(1), text("a")}
	bad := api.Val{Sort: api.SortInt, Int: 1, Bool: true}
	for k := range 256 {
		op := api.Kind(k)
		isOne := slices.ContainsFunc(sorts, func(v api.Val) bool { return slices.Contains(operatorsOf(v.Sort), op) })
		for _, a := range sorts {
			for _, b := range sorts {
				why := api.OK
				switch {
				case !isOne:
					why = api.ErrArg
				case a.Sort != b.Sort || !slices.Contains(operatorsOf(a.Sort), op):
					why = api.ErrMix
				}
				if got, e := consts.Binary(op, a, b); e != why || (e == api.OK) != (got != api.Val{}) {
					t.Errorf("8.3: %+v %d %+v: %+v, %d, not %d", a, k, b, got, e, why)
				}
			}
			for _, pair := range [][2]api.Val{{a, {}}, {{}, a}, {a, bad}, {bad, a}, {bad, bad}} {
				if got, e := consts.Binary(op, pair[0], pair[1]); e != api.ErrArg || got != (api.Val{}) {
					t.Errorf("8.3: %+v %d %+v: %+v, %d", pair[0], k, pair[1], got, e)
				}
			}
		}
	}
	for _, w := range wrongs() {
		for _, v := range rights() {
			for _, op := range []api.Kind{api.TokAdd, api.TokEq, api.TokBoth, api.TokDiv} {
				if got, e := consts.Binary(op, v, w); e != api.ErrArg || got != (api.Val{}) {
					t.Errorf("8.3: %+v %d %+v: %+v, %d", v, op, w, got, e)
				}
				if got, e := consts.Binary(op, w, v); e != api.ErrArg || got != (api.Val{}) {
					t.Errorf("8.3: %+v %d %+v: %+v, %d", w, op, v, got, e)
				}
			}
		}
	}
}

// wordNumber is 8.3's answer of two numbers, by numbers of the machine that are asked whether they wrapped; false: ErrConst.
func wordNumber(op api.Kind, a, b int64) (int64, bool) {
	switch op {
	case api.TokAdd:
		return a + b, (a+b >= a) == (b >= 0)
	case api.TokSub:
		return a - b, (a-b <= a) == (b >= 0)
	case api.TokMul:
		high, low := bits.Mul64(size(a), size(b))
		negative := (a < 0) != (b < 0)
		return a * b, high == 0 && (low <= math.MaxInt64 || negative && low == 1<<63)
	case api.TokDiv:
		if b == 0 || a == math.MinInt64 && b == -1 {
			return 0, false
		}
		return a / b, true
	case api.TokRem:
		if b == 0 {
			return 0, false
		}
		return a % b, true
	case api.TokShl:
		return a << uint(b&63), b >= 0 && b <= 63 && a<<uint(b&63)>>uint(b&63) == a
	case api.TokShr:
		return a >> uint(b&63), b >= 0 && b <= 63
	}
	return bitByBit(op, a, b), true
}

// size is a number without its sign.
func size(a int64) uint64 {
	if a < 0 {
		return -uint64(a)
	}
	return uint64(a)
}

func bitByBit(op api.Kind, a, b int64) int64 {
	var out uint64
	for i := range 64 {
		x, y := uint64(a)>>i&1 == 1, uint64(b)>>i&1 == 1
		var bit bool
		switch op {
		case api.TokAnd:
			bit = x && y
		case api.TokOr:
			bit = x || y
		case api.TokXor:
			bit = x != y
		case api.TokAndNot:
			bit = x && !y
		}
		if bit {
			out |= 1 << i
		}
	}
	return int64(out)
}

// wordCompare is 8.3's answer of a comparison.
func wordCompare(op api.Kind, less, same bool) bool {
	switch op {
	case api.TokEq:
		return same
	case api.TokNe:
		return !same
	case api.TokLt:
		return less
	case api.TokLe:
		return less || same
	case api.TokGt:
		return !less && !same
	}
	return !less
}

var comparisons = []api.Kind{api.TokEq, api.TokNe, api.TokLt, api.TokLe, api.TokGt, api.TokGe}

// wrongNumbers tells of the first operator that answers otherwise of two numbers than 8.3's words; "": none does.
func wrongNumbers(a, b int64) string {
	for _, op := range operatorsOf(api.SortInt) {
		got, e := consts.Binary(op, number(a), number(b))
		want, why := api.Val{}, api.OK
		if slices.Contains(comparisons, op) {
			want = truth(wordCompare(op, a < b, a == b))
		} else if n, ok := wordNumber(op, a, b); ok {
			want = number(n)
		} else {
			why = api.ErrConst
		}
		if got != want || e != why {
			return fmt.Sprintf("8.3: %d %d %d: %+v, %d; not %+v, %d", a, op, b, got, e, want, why)
		}
	}
	return ""
}

// TestNumbers: every operator at the edges, each with each, and of numbers by chance (8.3).
func TestNumbers(t *testing.T) {
	check := func(a, b int64) {
		if wrong := wrongNumbers(a, b); wrong != "" {
			t.Fatal(wrong)
		}
	}
	for _, a := range edgeNumbers {
		for _, b := range edgeNumbers {
			check(a, b)
		}
		for b := int64(-2); b < 67; b++ {
			check(a, b)
		}
	}
	r := chance(4)
	for range 20000 {
		check(anyNumber(r), anyNumber(r))
	}
}

// lessBytes is the order of texts by 8.3's words.
func lessBytes(a, b string) bool {
	for i := range min(len(a), len(b)) {
		if a[i] != b[i] {
			return a[i] < b[i]
		}
	}
	return len(a) < len(b)
}

// TestTextsAndBools: every operator of theirs (8.3).
func TestTextsAndBools(t *testing.T) {
	r := chance(5)
	for range 5000 {
		a, b := anyText(r), anyText(r)
		if got, e := consts.Binary(api.TokAdd, text(a), text(b)); e != api.OK || got != text(string(append([]byte(a), b...))) {
			t.Fatalf("8.3: %q + %q: %+v, %d", a, b, got, e)
		}
		for _, op := range comparisons {
			if got, e := consts.Binary(op, text(a), text(b)); e != api.OK || got != truth(wordCompare(op, lessBytes(a, b), a == b)) {
				t.Fatalf("8.3: %q %d %q: %+v, %d", a, op, b, got, e)
			}
		}
	}
	for _, a := range []bool{false, true} {
		for _, b := range []bool{false, true} {
			for op, want := range map[api.Kind]bool{api.TokEq: a == b, api.TokNe: a != b, api.TokBoth: a && b, api.TokEither: a || b} {
				if got, e := consts.Binary(op, truth(a), truth(b)); e != api.OK || got != truth(want) {
					t.Errorf("8.3: %t %d %t: %+v, %d", a, op, b, got, e)
				}
			}
		}
	}
	long := strings.Repeat("ab", 1<<20)
	if got, e := consts.Binary(api.TokAdd, text(long), text(long)); e != api.OK || got != text(long+long) {
		t.Error("8.3: texts of any length", e)
	}
}

// TestLaws: what follows of operators (8.10, 8.11).
func TestLaws(t *testing.T) {
	r := chance(6)
	binary := func(op string, a, b api.Val) (api.Val, bool) {
		v, e := consts.Binary(marks[op], a, b)
		return v, e == api.OK
	}
	unary := func(op string, a api.Val) (api.Val, bool) {
		v, e := consts.Unary(marks[op], a)
		return v, e == api.OK
	}
	for range 20000 {
		a, b := number(anyNumber(r)), number(anyNumber(r))
		for _, op := range []string{"-", "^"} {
			if v, ok := unary(op, a); ok {
				if w, ok := unary(op, v); !ok || w != a {
					t.Fatalf("8.10: %s of %s %+v: %+v", op, op, a, w)
				}
			}
		}
		for _, back := range [][2]string{{"+", "-"}, {"-", "+"}, {"<<", ">>"}, {"^", "^"}} {
			if v, ok := binary(back[0], a, b); ok {
				if w, ok := binary(back[1], v, b); !ok || w != a {
					t.Fatalf("8.10: (%+v %s %+v) %s it: %+v", a, back[0], b, back[1], w)
				}
			}
		}
		if q, ok := binary("/", a, b); ok {
			m, _ := binary("*", q, b)
			rest, ok := binary("%", a, b)
			if w, done := binary("+", m, rest); !ok || !done || w != a {
				t.Fatalf("8.10: %+v / %+v", a, b)
			}
		}
		not, _ := unary("^", b)
		left, _ := binary("&^", a, b)
		if right, ok := binary("&", a, not); !ok || left != right {
			t.Fatalf("8.10: %+v &^ %+v", a, b)
		}
		x, y := anyRight(r), anyRight(r)
		if v, ok := binary("<", x, y); ok && v != truth(consts.Less(x, y)) {
			t.Fatalf("8.10: %+v < %+v", x, y)
		}
		turned(t, a, b, "+", "*", "&", "|", "^", "==", "!=")
		turned(t, x, y, "==", "!=")
	}
}

// turned asks that the order of operands does not matter to operators.
func turned(t *testing.T, a, b api.Val, ops ...string) {
	t.Helper()
	for _, op := range ops {
		v, e := consts.Binary(marks[op], a, b)
		if w, f := consts.Binary(marks[op], b, a); v != w || e != f {
			t.Fatalf("8.11: %+v %s %+v: %+v, %d and %+v, %d", a, op, b, v, e, w, f)
		}
	}
}
