package consts_test

import (
	"math"
	"math/rand/v2"
	"strings"
	"testing"

	"moniker/api"
	"moniker/consts"
)

func chance(seed uint64) *rand.Rand { return rand.New(rand.NewPCG(seed, 8)) }

func truth(b bool) api.Val   { return api.Val{Sort: api.SortBool, Bool: b} }
func number(n int64) api.Val { return api.Val{Sort: api.SortInt, Int: n} }
func text(s string) api.Val  { return api.Val{Sort: api.SortText, Text: s} }

// marks are the operators by their spelling, and tokens that are none.
var marks = map[string]api.Kind{
	"+": api.TokAdd, "-": api.TokSub, "*": api.TokMul, "/": api.TokDiv, "%": api.TokRem,
	"&": api.TokAnd, "|": api.TokOr, "^": api.TokXor, "&^": api.TokAndNot, "<<": api.TokShl, ">>": api.TokShr,
	"==": api.TokEq, "!=": api.TokNe, "<": api.TokLt, "<=": api.TokLe, ">": api.TokGt, ">=": api.TokGe,
	"&&": api.TokBoth, "||": api.TokEither, "!": api.TokNot,
}

// goesWith are, for each sort, the operators of 8.3's table.
var goesWith = map[api.Sort]string{
	api.SortInt:  "+ - * / % & | ^ &^ << >> == != < <= > >=",
	api.SortText: "+ == != < <= > >=",
	api.SortBool: "== != && ||",
}

// operatorsOf are those that go with a sort.
func operatorsOf(s api.Sort) []api.Kind {
	var out []api.Kind
	for _, mark := range strings.Fields(goesWith[s]) {
		out = append(out, marks[mark])
	}
	return out
}

var edgeNumbers = []int64{
	math.MinInt64, math.MinInt64 + 1, -1 << 62, -1<<62 - 1, -3037000500, -3037000499, -1 << 32, -1 << 31, -65, -64, -63, -8, -7, -5, -3, -2, -1,
	0, 1, 2, 3, 5, 7, 8, 61, 62, 63, 64, 65, 255, 1<<31 - 1, 1 << 31, 1 << 32, 3037000499, 3037000500, 1<<62 - 1, 1 << 62, math.MaxInt64 - 1, math.MaxInt64,
}

var someTexts = []string{"", "a", "ab", "b", "A", "\x00", "\xff", "é", "\xc3", "\xa9", "\xc3\xa9x", "aa", "a\x00", "true", "1", "\"", "\\", "\n\r\t\a\b\v\f", "\x7f\x80", "\U0010ffff", "日本", "`"}

// rights are right values of every sort, the edges of each among them.
func rights() []api.Val {
	out := []api.Val{truth(false), truth(true)}
	for _, n := range edgeNumbers {
		out = append(out, number(n))
	}
	for _, s := range someTexts {
		out = append(out, text(s))
	}
	return out
}

// wrongs are values of no sort, or of one with something of another.
func wrongs() []api.Val {
	out := []api.Val{{}, {Bool: true}, {Int: 1}, {Text: "a"}}
	for s := api.SortText + 1; s != 0; s++ {
		out = append(out, api.Val{Sort: s}, api.Val{Sort: s, Int: 7})
	}
	return append(out,
		api.Val{Sort: api.SortBool, Int: 1}, api.Val{Sort: api.SortBool, Bool: true, Int: -1}, api.Val{Sort: api.SortBool, Text: "true"}, api.Val{Sort: api.SortBool, Bool: true, Text: "a"},
		api.Val{Sort: api.SortInt, Bool: true}, api.Val{Sort: api.SortInt, Bool: true, Int: 5}, api.Val{Sort: api.SortInt, Text: "5"}, api.Val{Sort: api.SortInt, Int: 5, Text: "\x00"},
		api.Val{Sort: api.SortText, Bool: true}, api.Val{Sort: api.SortText, Int: 1}, api.Val{Sort: api.SortText, Text: "a", Bool: true}, api.Val{Sort: api.SortText, Text: "a", Int: -1},
	)
}

// anyNumber is near an edge, small, or anywhere.
func anyNumber(r *rand.Rand) int64 {
	switch r.IntN(4) {
	case 0:
		return edgeNumbers[r.IntN(len(edgeNumbers))] + r.Int64N(5) - 2 // wraps round, to an edge too
	case 1:
		return r.Int64N(140) - 70
	case 2:
		return int64(r.Uint64()) >> r.IntN(64)
	}
	return int64(r.Uint64())
}

func anyText(r *rand.Rand) string {
	if r.IntN(3) == 0 {
		return someTexts[r.IntN(len(someTexts))]
	}
	var out strings.Builder
	for range r.IntN(6) {
		switch r.IntN(3) {
		case 0:
			out.WriteByte(byte(r.IntN(256)))
		case 1:
			out.WriteByte(byte(32 + r.IntN(95)))
		case 2:
			out.WriteString(someTexts[r.IntN(len(someTexts))])
		}
	}
	return out.String()
}

func anyRight(r *rand.Rand) api.Val {
	switch r.IntN(5) {
	case 0:
		return truth(r.IntN(2) == 0)
	case 1, 2:
		return text(anyText(r))
	}
	return number(anyNumber(r))
}

// read is a value that is written as Show writes it; the zero Val: "".
func read(t *testing.T, s string) api.Val {
	t.Helper()
	if s == "" {
		return api.Val{}
	}
	v, e := consts.Read(s)
	if e != api.OK {
		t.Fatalf("8.5: Read(%q): %d", s, e)
	}
	return v
}

// answers asks that a call answered a value, written as Show writes it, or an error and the zero Val.
func answers(t *testing.T, what string, v api.Val, e api.Errno, want string, why api.Errno) {
	t.Helper()
	if e != why || v != read(t, want) {
		t.Errorf("%s: %+v, %d; not %s, %d", what, v, e, want, why)
	}
}
