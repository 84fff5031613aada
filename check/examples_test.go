package check_test

import (
	"testing"

	"moniker/api"
)

// TestExamples: those of the chapter.
func TestExamples(t *testing.T) {
	refuse(t, []wrong{
		{"x := 1; x = x @+ true", api.ErrMix}, {`print("a" @+ 1)`, api.ErrMix}, {"print(@true + true)", api.ErrOperand}, {"print(@nil + nil)", api.ErrOperand},
		{"var t T = 1; var i int = @t; print(i)", api.ErrAssign}, {"print(t @+ i)", api.ErrMix}, {"print(t + 1)", api.OK}, {`var b bool = @"a"; print(b)`, api.ErrAssign},
		{"print(1 @<< 63)", api.ErrConst}, {"print(i << 64)", api.OK}, {"print(1 << i)", api.OK},
		{"print(@none())", api.ErrValue}, {"take(1, @two())", api.ErrValue}, {"take(two())", api.OK}, {"@text(two())", api.ErrCount}, {"h := func(a, b, c int) { }; @h(two())", api.ErrCount},
		{"_ = S{1}; _ = S{a: 1}", api.OK}, {"_ = @S{1, 2}", api.ErrCount}, {"_ = S{@b: 1}", api.ErrMember}, {"_ = S{a: 1, @a: 2}", api.ErrTwice}, {"_ = @S{a: 1, 2}", api.ErrForm}, {"_ = []int{2: 1, 5, @3: 0}", api.ErrTwice}, {"_ = map[T]int{1: 1, @1: 2}", api.ErrTwice},
		{"@S{1}.a = 2", api.ErrPlace}, {"(&S{1}).a = 2", api.OK}, {`@ms["a"].a = 1`, api.ErrPlace}, {`_ = @&ms["a"]`, api.ErrPlace},
		{"_ = face.(@S)", api.ErrAssert}, {"_ = face.(I)", api.OK}, {"_ = @1.(int)", api.ErrOperand},
		{"switch i { case 1, 2: case @2: }", api.ErrTwice}, {"switch { case @i: }", api.ErrOperand}, {"switch @nil { }", api.ErrNil},
		{"@a, b := 1; print(a, b)", api.ErrCount}, {`a, ok := m["x"]; print(a, ok)`, api.OK}, {`var f B; v := 1; v, f = m["x"]; print(v, f)`, api.OK}, {"_ = @nil", api.ErrNil},
		{`const c = len("abc") << iota; print(c)`, api.OK}, {"const ( a = 1 << (62 + iota); @b )", api.ErrConst}, {`const d int = @"x"`, api.ErrAssign}, {"const e = @i", api.ErrConst},
		{`text("a" @+ 1, nil)`, api.ErrMix},
		{"_ = append(@nil, 1)", api.ErrOperand}, {`_ = append(l, @"a")`, api.ErrAssign}, {"_ = len(@1)", api.ErrOperand}, {"_ = make(@int, 1)", api.ErrOperand}, {"_ = @make([]int)", api.ErrCount}, {"_ = new(@1)", api.ErrType}, {"print(1, @nil)", api.ErrOperand}, {"take(l@...)", api.ErrUse},
	})
	refuseAll(t, []wrong{
		{"var @a = b; var b = a", api.ErrCycle}, {"var @a = f(); func f() int { return a }", api.ErrCycle}, {"var @x = g; func g() { x() }", api.ErrCycle},
		{"var a, b = c, 1; var c, d = b, 2", api.OK}, {"const d = @q; var x, q = d, 2", api.ErrConst},
	})
	x := checked(t, files("a: package main; var a, b = c, 1; var c, d = b, 2; const k = len(\"abc\") << iota; func main() { print(k) }"))
	if got := x.starts(); got != "b c a d" {
		t.Errorf("12.9: %s", got)
	}
	n := x.nodes(0, "k")[1]
	if v, ok := x.Const(0, n); !ok || v != (api.Val{Sort: api.SortInt, Int: 3}) {
		t.Errorf("12.7: %v", v)
	}
}
