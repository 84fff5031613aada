package consts

import (
	"cmp"
	"math"
	"math/big"
	"strings"

	"moniker/api"
)

// The bounds of numbers.
var (
	least    = big.NewInt(math.MinInt64)
	greatest = big.NewInt(math.MaxInt64)
)

// holding is a comparison, and a sign of a compare at which it is true.
type holding struct {
	op   api.Kind
	sign int
}

var signs = [9]holding{
	{api.TokEq, 0},
	{api.TokNe, -1}, {api.TokNe, 1},
	{api.TokLt, -1},
	{api.TokLe, -1}, {api.TokLe, 0},
	{api.TokGt, 1},
	{api.TokGe, 0}, {api.TokGe, 1},
}

// Unary and Binary do an operator (by its token's kind).
func Unary(op api.Kind, v api.Val) (api.Val, api.Errno) {
	if !isRight(v) {
		return api.Val{}, api.ErrArg
	}
	want := api.SortInt
	switch op {
	case api.TokNot:
		want = api.SortBool
	case api.TokAdd, api.TokSub, api.TokXor:
	default:
		return api.Val{}, api.ErrArg
	}
	if v.Sort != want {
		return api.Val{}, api.ErrMix
	}
	switch op {
	case api.TokSub:
		return ofNumbers(api.TokSub, 0, v.Int)
	case api.TokXor:
		return ofNumbers(api.TokSub, -1, v.Int)
	case api.TokNot:
		return truth(!v.Bool), api.OK
	}
	return v, api.OK
}

func Binary(op api.Kind, a, b api.Val) (api.Val, api.Errno) {
	if !isOperator(op) || !isRight(a) || !isRight(b) {
		return api.Val{}, api.ErrArg
	}
	if a.Sort != b.Sort {
		return api.Val{}, api.ErrMix
	}
	switch op {
	case api.TokLt, api.TokLe, api.TokGt, api.TokGe:
		if a.Sort == api.SortBool {
			return api.Val{}, api.ErrMix
		}
		fallthrough
	case api.TokEq, api.TokNe:
		return truth(holds(op, compare(a, b))), api.OK
	}
	switch a.Sort {
	case api.SortBool:
		return ofBools(op, a.Bool, b.Bool)
	case api.SortText:
		return ofTexts(op, a.Text, b.Text)
	}
	return ofNumbers(op, a.Int, b.Int)
}

// isOperator tells whether an operator goes with values of some sort.
func isOperator(op api.Kind) bool {
	switch op {
	case api.TokAdd, api.TokSub, api.TokMul, api.TokDiv, api.TokRem,
		api.TokAnd, api.TokOr, api.TokXor, api.TokAndNot, api.TokShl, api.TokShr,
		api.TokEq, api.TokNe, api.TokLt, api.TokLe, api.TokGt, api.TokGe,
		api.TokBoth, api.TokEither:
		return true
	}
	return false
}

// holds tells whether a comparison is true of two values whose compare has that sign.
func holds(op api.Kind, sign int) bool {
	for _, s := range signs {
		if s == (holding{op, sign}) {
			return true
		}
	}
	return false
}

// compare is -1, 0 or 1, as the first of two right values of one sort is less, the same or greater.
func compare(a, b api.Val) int {
	switch {
	case a == b:
		return 0
	case a.Sort == api.SortBool && b.Bool:
		return -1
	case a.Sort == api.SortBool:
		return 1
	}
	return cmp.Or(cmp.Compare(a.Int, b.Int), strings.Compare(a.Text, b.Text))
}

func ofBools(op api.Kind, a, b bool) (api.Val, api.Errno) {
	switch op {
	case api.TokBoth:
		return truth(a && b), api.OK
	case api.TokEither:
		return truth(a || b), api.OK
	}
	return api.Val{}, api.ErrMix
}

func ofTexts(op api.Kind, a, b string) (api.Val, api.Errno) {
	if op != api.TokAdd {
		return api.Val{}, api.ErrMix
	}
	var both strings.Builder // + would hand on one of them as it is, if the other is empty
	both.WriteString(a)
	both.WriteString(b)
	return text(both.String()), api.OK
}

// ofNumbers does an operator without bounds, and holds what comes out against them.
func ofNumbers(op api.Kind, a, b int64) (api.Val, api.Errno) {
	if isOutside(op, b) {
		return api.Val{}, api.ErrConst
	}
	x, y := big.NewInt(a), big.NewInt(b)
	switch op {
	case api.TokAdd:
		x.Add(x, y)
	case api.TokSub:
		x.Sub(x, y)
	case api.TokMul:
		x.Mul(x, y)
	case api.TokDiv:
		x.Quo(x, y)
	case api.TokRem:
		x.Rem(x, y)
	case api.TokAnd:
		x.And(x, y)
	case api.TokOr:
		x.Or(x, y)
	case api.TokXor:
		x.Xor(x, y)
	case api.TokAndNot:
		x.AndNot(x, y)
	case api.TokShl:
		x.Lsh(x, uint(b))
	case api.TokShr:
		x.Rsh(x, uint(b))
	default:
		return api.Val{}, api.ErrMix
	}
	if x.Cmp(least) < 0 || x.Cmp(greatest) > 0 {
		return api.Val{}, api.ErrConst
	}
	return number(x.Int64()), api.OK
}

// isOutside tells whether an operator may not have this number on its right.
func isOutside(op api.Kind, b int64) bool {
	switch op {
	case api.TokDiv, api.TokRem:
		return b == 0
	case api.TokShl, api.TokShr:
		return b < 0 || b > 63
	}
	return false
}
