package check_test

import (
	"testing"

	"moniker/api"
)

// TestNames: Name, Number, Paren of 12.3.
func TestNames(t *testing.T) {
	refuse(t, []wrong{
		{"print(@_)", api.ErrValue}, {"_ = (@_)", api.ErrValue}, {"(@_) = 1", api.ErrValue}, {"@_ += 1", api.ErrValue}, {"@_++", api.ErrValue}, {"_ = S{a: @_}", api.ErrValue}, {"_ = 1", api.OK}, {"var _ = 1", api.OK}, {"_, a := 1, 2; print(a)", api.OK}, {"for _ = range 3 { }", api.OK}, {"for _, _ = range l { }", api.OK}, {"_ = @_.a", api.ErrValue},
		{"_ = map[string]int{@nowhere: 1}", api.ErrUnknown}, {"_ = []int{@nowhere: 1}", api.ErrUnknown}, {"_ = T{@nowhere: 1}", api.ErrUnknown}, {"_ = []int{@x: 1}", api.ErrUse}, {"_ = M{@x: s}", api.ErrUse}, {"_ = map[string]int{str: 1}", api.OK}, {"_ = []int{K: 1}", api.OK}, {"_ = map[string]int{@_: 1}", api.ErrValue},
		{"_ = @len", api.ErrUse}, {"@print", api.ErrUse}, {"_ = (@len)(str)", api.ErrUse}, {"take(@append, 1)", api.ErrUse}, {"_ = @new.a", api.ErrUse}, {"len := func(a int) int { return a }; _ = len(1)", api.OK}, {"append := 1; _ = append", api.OK}, {"_ = (@make)", api.ErrUse},
		{"print(true, false, 'a', K)", api.OK}, {"main()", api.OK}, {"_ = main", api.OK}, {"@main = none", api.ErrPlace}, {"@nil = nil", api.ErrPlace}, {"@true = false", api.ErrPlace}, {"@K = 1", api.ErrPlace}, {"@none = none", api.ErrPlace}, {"@T = 1", api.ErrValue}, {"@int = 1", api.ErrValue},
		{"print(9223372036854775807, 0x7fffffffffffffff)", api.OK}, {"print(@9223372036854775808)", api.ErrConst}, {"print(-@9223372036854775808)", api.ErrConst}, {"print(@0xffffffffffffffff)", api.ErrConst},
		{"(i) = 1; ((m[\"a\"])) = 2; print((i))", api.OK}, {"print(@(none()))", api.ErrValue}, {"print(@(int))", api.ErrValue}, {"print(@int)", api.ErrValue}, {"print(@[]int)", api.ErrValue}, {"print((i).@y)", api.ErrMember},
	})
}

// TestOperators: Binary and Sign of 12.3, each fault and which of two comes first.
func TestOperators(t *testing.T) {
	refuse(t, []wrong{
		{"_ = @none() + two()", api.ErrValue}, {"_ = 1 + @two()", api.ErrValue}, {"_ = @int + nil", api.ErrValue}, {"_ = nil + @int", api.ErrValue}, {"_ = @nil + 1", api.ErrOperand}, {`_ = "a" + @nil`, api.ErrOperand}, {"_ = s + @nil", api.ErrOperand},
		{`_ = 1 @+ "a"`, api.ErrMix}, {"_ = 1 @+ true", api.ErrMix}, {"_ = 1 @* str", api.ErrMix}, {"_ = str @- 1", api.ErrMix}, {"_ = 1 @+ s", api.ErrMix}, {"_ = l @+ 1", api.ErrMix}, {"_ = t @+ i", api.ErrMix}, {"_ = u @+ str", api.ErrMix}, {"_ = ll @+ l", api.ErrMix}, {"_ = p @+ pp", api.ErrMix}, {"_ = face @+ t", api.ErrMix},
		{"_ = @s + s", api.ErrOperand}, {"_ = @l + l", api.ErrOperand}, {"_ = @yes + yes", api.ErrOperand}, {"_ = @str - str", api.ErrOperand}, {`_ = @"a" * "b"`, api.ErrOperand}, {"_ = @true / true", api.ErrOperand}, {`_ = @u &^ "a"`, api.ErrOperand}, {"_ = @face + face", api.ErrOperand}, {"_ = @by - true", api.ErrOperand},
		{"_ = i + 1 - 2*j/3%4&5 | 6 ^ 7&^8", api.OK}, {"_ = t + 1 - 2*t/3%4&5 | 6 ^ 7&^t", api.OK}, {`_ = str + "a" + str; _ = u + "b" + u`, api.OK}, {"_ = KT + t - K", api.OK}, {"_ = 'a' + i", api.OK},
		{"_ = 1 @/ 0", api.ErrConst}, {"_ = 1 @% 0", api.ErrConst}, {"_ = KT @/ 0", api.ErrConst}, {"_ = i / 0", api.OK}, {"_ = 9223372036854775807 @+ 1", api.ErrConst}, {"_ = 9223372036854775807 + i", api.OK}, {"_ = (-9223372036854775807 - 1) @/ -1", api.ErrConst}, {"_ = (-9223372036854775807 - 1) % -1", api.OK}, {"_ = T(9223372036854775807) @* 2", api.ErrConst}, {"_ = -9223372036854775807 @- 2", api.ErrConst},
		{"_ = @none() << 1", api.ErrValue}, {"_ = 1 << @none()", api.ErrValue}, {"_ = @nil << 1", api.ErrOperand}, {"_ = 1 << @nil", api.ErrOperand}, {"_ = @str << 1", api.ErrOperand}, {`_ = @"a" << "b"`, api.ErrOperand}, {"_ = 1 >> @true", api.ErrOperand}, {"_ = i << @str", api.ErrOperand}, {"_ = i << t; _ = t >> i; _ = t << 1", api.OK}, {"_ = 1 @<< 64", api.ErrConst}, {"_ = 1 @>> -1", api.ErrConst}, {"_ = 1 >> 63 << 62", api.OK}, {"_ = KT @<< 62", api.ErrConst}, {"_ = i << -1 >> 64", api.OK}, {"var a T = @1 << i; print(a)", api.ErrAssign}, {"var a T = 1 << 2; print(a)", api.OK},
		{"_ = i @&& yes", api.ErrMix}, {"_ = @i && i", api.ErrOperand}, {"_ = @1 || 2", api.ErrOperand}, {`_ = @"a" && "b"`, api.ErrOperand}, {`_ = true @&& "b"`, api.ErrMix}, {"_ = by @|| yes", api.ErrMix}, {"_ = by && true || by", api.OK}, {"_ = yes && i == j", api.OK}, {"_ = @nil && true", api.ErrOperand}, {"_ = true && @nil", api.ErrOperand}, {"_ = by @&& (i == j)", api.ErrMix}, {"_ = by && (1 == 2)", api.OK}, {"_ = @none() || nil", api.ErrValue},
		{"_ = +@nil", api.ErrOperand}, {"_ = -@str", api.ErrOperand}, {`_ = ^@"a"`, api.ErrOperand}, {"_ = -@true", api.ErrOperand}, {"_ = -@s", api.ErrOperand}, {"_ = !@1", api.ErrOperand}, {"_ = !@i", api.ErrOperand}, {"_ = !@nil", api.ErrOperand}, {"_ = -@none()", api.ErrValue}, {"_ = !@int", api.ErrValue}, {"_ = -t + ^t + +t; _ = !by; _ = !yes; _ = !true", api.OK}, {"_ = @-(-9223372036854775807 - 1)", api.ErrConst}, {"_ = ^(-9223372036854775807 - 1)", api.OK}, {"_ = -(i)", api.OK},
	})
}

// TestComparisons: those of 12.3.
func TestComparisons(t *testing.T) {
	refuse(t, []wrong{
		{"_ = @none() == nil", api.ErrValue}, {"_ = nil == @none()", api.ErrValue}, {"_ = nil @== nil", api.ErrMix}, {"_ = nil @< nil", api.ErrMix}, {"_ = 1 @== nil", api.ErrMix}, {"_ = nil @!= 1", api.ErrMix}, {"_ = i @== nil", api.ErrMix}, {"_ = nil @== s", api.ErrMix}, {"_ = str @!= nil", api.ErrMix}, {"_ = by @< nil", api.ErrMix},
		{"_ = p == nil; _ = nil != l; _ = m == nil; _ = f != nil; _ = face == nil; _ = pp == nil; _ = nil == any; _ = (nil) == (p)", api.OK}, {"_ = @p < nil", api.ErrOperand}, {"_ = @nil >= l", api.ErrOperand}, {"_ = @face > nil", api.ErrOperand},
		{`_ = 1 @== "a"`, api.ErrMix}, {"_ = 1 @< true", api.ErrMix}, {"_ = 1 @== str", api.ErrMix}, {"_ = s @== 1", api.ErrMix}, {"_ = face @== 1", api.ErrMix}, {"_ = any @== 1", api.ErrMix}, {"_ = t @== i", api.ErrMix}, {"_ = u @!= str", api.ErrMix}, {"_ = by @== yes", api.ErrMix}, {"_ = p @== pi", api.ErrMix}, {"_ = p @== e", api.ErrMix},
		{"_ = p == pp; _ = pp != p; _ = i == 1; _ = 1 < t; _ = u >= \"a\"; _ = yes == true; _ = by != false; _ = 'a' < i", api.OK}, {"_ = @s == s", api.ErrOperand}, {"_ = @l == l", api.ErrOperand}, {"_ = @ll == l", api.ErrOperand}, {"_ = @m == m", api.ErrOperand}, {"_ = @f != f", api.ErrOperand}, {"_ = @face == face", api.ErrOperand}, {"_ = @face == t", api.ErrOperand}, {"_ = t == @face", api.ErrOperand}, {"_ = @face == wide", api.ErrOperand}, {"_ = @any == p", api.ErrOperand}, {"_ = p != @any", api.ErrOperand},
		{"_ = @yes < yes", api.ErrOperand}, {"_ = @true > false", api.ErrOperand}, {"_ = @p < p", api.ErrOperand}, {"_ = @by <= true", api.ErrOperand}, {"_ = @true >= by", api.ErrOperand}, {"_ = i < j; _ = str <= \"a\"; _ = 1 > 2; _ = KT >= t", api.OK},
		{"var a bool = i == j; print(a)", api.OK}, {"var a B = @i == j; print(a)", api.ErrAssign}, {"var a B = 1 == 2; print(a)", api.OK}, {"var a B = KT < 5; print(a)", api.OK}, {"const c B = KT == 4; print(c)", api.OK}, {"const c = @i == 1", api.ErrConst},
	})
}

// TestPlaces: the Sign & and Star of 12.3.
func TestPlaces(t *testing.T) {
	refuse(t, []wrong{
		{"_ = &i; _ = &s.a; _ = &l[0]; _ = &p.a; _ = &*p; _ = &(i); _ = &S{1}; _ = &(S{}); _ = &((L{})); _ = &M{}; _ = &x.V; _ = &x.V.A", api.OK}, {"_ = @&1", api.ErrPlace}, {"_ = @&nil", api.ErrPlace}, {"_ = @&one()", api.ErrPlace}, {"_ = @&K", api.ErrPlace}, {"_ = @&none", api.ErrPlace}, {"_ = @&m[\"a\"]", api.ErrPlace}, {"_ = @&(m[\"a\"])", api.ErrPlace}, {"_ = @&str[0]", api.ErrPlace}, {"_ = @&l[1:]", api.ErrPlace}, {"_ = @&S{1}.a", api.ErrPlace}, {"_ = @&ms[\"a\"].a", api.ErrPlace}, {"_ = @&face.(T)", api.ErrPlace}, {"_ = @&e.m", api.ErrPlace}, {"_ = @&(i + 1)", api.ErrPlace}, {"_ = &@int", api.ErrValue}, {"_ = &@two()", api.ErrValue}, {"_ = &@none()", api.ErrValue}, {"_ = @&func() { }", api.ErrPlace}, {"_ = @&x.C", api.ErrPlace}, {"_ = @&-i", api.ErrPlace}, {"_ = @& &i", api.ErrPlace}, {"_ = &e.S.a; _ = &e.a; _ = &e.p.a; e.p.a = 1", api.OK},
	})
	refuse(t, []wrong{
		{"_ = &e.S.a; _ = &e.a; _ = &e.p.a; e.p.a = 1", api.OK},
		{"_ = *p; _ = *pp; *pi = 1; *&i = 2; (*p).a = 3", api.OK}, {"_ = *@nil", api.ErrNil}, {"_ = *@(nil)", api.ErrNil}, {"_ = *@1", api.ErrOperand}, {"_ = *@i", api.ErrOperand}, {"_ = *@s", api.ErrOperand}, {"_ = *@l", api.ErrOperand}, {"_ = *@face", api.ErrOperand}, {"_ = *@none()", api.ErrValue}, {"_ = *@two()", api.ErrValue}, {"_ = @*T", api.ErrValue}, {"_ = @*[]int", api.ErrValue}, {"_ = (*S)(nil)", api.OK}, {"_ = *@*pi", api.ErrOperand},
	})
}
