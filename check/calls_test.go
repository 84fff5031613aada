package check_test

import (
	"testing"

	"moniker/api"
)

// TestSelectors: Select of 12.3.
func TestSelectors(t *testing.T) {
	refuse(t, []wrong{
		{"_ = x.C + x.V.A; _ = x.F(1); x.V.G(); x.V.A = 2; _ = x.T(3); _ = x.Big", api.OK}, {"_ = x.@_", api.ErrMember}, {"@x.C = 1", api.ErrPlace}, {"_ = @x.T", api.ErrValue},
		{"_ = s.a; _ = p.a; _ = e.a; _ = e.S; _ = e.S.a; _ = (&e).b; _ = e.p.a; _ = s.v; _ = p.v(); _ = e.v(); e.m(); face.m(); _ = wide.n(); wide.m()", api.OK},
		{"_ = 1.@a", api.ErrMember}, {"_ = nil.@a", api.ErrMember}, {"_ = true.@a", api.ErrMember}, {"_ = i.@a", api.ErrMember}, {"_ = str.@a", api.ErrMember}, {"_ = l.@a", api.ErrMember}, {"_ = ll.@a", api.ErrMember}, {"_ = none.@a", api.ErrMember}, {"_ = pi.@a", api.ErrMember}, {"_ = pp.@a", api.ErrMember}, {"_ = (&face).@m", api.ErrMember}, {"_ = (&p).@a", api.ErrMember}, {"_ = (&pp).@a", api.ErrMember}, {"_ = (&l).@a", api.ErrMember}, {"_ = s.@b", api.ErrMember}, {"_ = s.@_", api.ErrMember}, {"_ = e.@_", api.ErrMember}, {"_ = face.@n", api.ErrMember}, {"_ = any.@m", api.ErrMember}, {"_ = @none().a", api.ErrValue}, {"_ = @two().a", api.ErrValue},
		{"E{}.@m()", api.ErrMember}, {"(&E{}).m()", api.OK},
		{"q := []E{E{}}[0].m; q()", api.OK}, {"q := map[int]E{}[0].@m; q()", api.ErrMember}, {"q := func() E { return e }; q().@m()", api.ErrMember}, {"q := func() *E { return &e }; q().m(); q().b = 1", api.OK}, {"q := func() E { return e }; @q().b = 1", api.ErrPlace}, {"(e).m(); (&(e)).m()", api.OK},
		{"type A struct { S }; type C struct { A; S }; type D struct { A; *E }; var c C; var d D; _ = c.a; _ = d.@v; _ = c.S", api.ErrMember}, {"type A struct { a int }; type D struct { A; S }; var d D; _ = d.@a", api.ErrMember}, {"type D struct { *E }; D{}.m(); q := D.m; q(D{})", api.OK}, {"type D struct { E }; q := D.@m; q(D{})", api.ErrMember}, {"type D struct { E }; q := (*D).m; q(&D{})", api.OK}, {"type D struct { I }; D{}.m(); q := D.m; q(D{})", api.OK}, {"type D struct { *S }; @D{}.a = 1", api.ErrPlace}, {"type D struct { *S }; var d D; d.a = 1", api.OK}, {"type D struct { *S }; D{}.S.a = 1", api.OK},
		{"q := E.@m; q(e)", api.ErrMember}, {"q := (*E).m; q(&e)", api.OK}, {"q := S.v; _ = q(s) + (*S).v(p)", api.OK}, {"q := I.m; q(face)", api.OK}, {"_ = J.n(wide); J.m(t)", api.OK}, {"_ = (*I).@m", api.ErrMember}, {"_ = I.@n", api.ErrMember}, {"_ = S.@a", api.ErrMember}, {"_ = int.@a", api.ErrMember}, {"_ = ([]int).@a", api.ErrMember}, {"_ = S.@_", api.ErrMember}, {"_ = P.@v", api.ErrMember}, {"_ = (*P).@v", api.ErrMember}, {"_ = (**S).@v", api.ErrMember}, {"q := x.S.@G; q(x.V)", api.ErrMember}, {"q := (*x.S).G; q(&x.V)", api.OK}, {"q := T.m; q(@i)", api.ErrAssign}, {"q := T.m; q(1)", api.OK},
	})
}

// TestParts: Index, Slice and Assert of 12.3.
func TestParts(t *testing.T) {
	refuse(t, []wrong{
		{`_ = l[0] + l[i] + ll[t] + str[0] + "abc"[1] + m["a"] + u[t]; l[0] = 1; m["a"] = 2; _ = ms[str].a; _ = l['a']; _ = lt[K]`, api.OK},
		{"_ = @nil[0]", api.ErrOperand}, {"_ = @1[0]", api.ErrOperand}, {"_ = @true[0]", api.ErrOperand}, {"_ = @i[0]", api.ErrOperand}, {"_ = @s[0]", api.ErrOperand}, {"_ = @p[0]", api.ErrOperand},
		{"_ = @(&l)[0]", api.ErrOperand}, {"_ = @none()[0]", api.ErrValue}, {"_ = @face[0]", api.ErrOperand}, {"_ = @T[0]", api.ErrValue}, {"_ = @s[none()]", api.ErrOperand},
		{"_ = l[@none()]", api.ErrValue}, {"_ = l[@int]", api.ErrValue}, {"_ = m[@two()]", api.ErrValue}, {"_ = m[@1]", api.ErrAssign}, {"_ = m[@u]", api.ErrAssign}, {"_ = m[@nil]", api.ErrAssign}, {"_ = l[@str]", api.ErrOperand}, {`_ = l[@"a"]`, api.ErrOperand}, {"_ = l[@nil]", api.ErrOperand}, {"_ = str[@yes]", api.ErrOperand}, {"_ = l[@true]", api.ErrOperand}, {"_ = l[-1]", api.OK}, {"_ = map[T]int{}[1]; _ = map[T]int{}[t]", api.OK}, {"_ = map[T]int{}[@i]", api.ErrAssign}, {"const c = @\"abc\"[0]", api.ErrConst}, {"@str[0] = 1", api.ErrPlace}, {`var a T = @str[0]; print(a)`, api.ErrAssign},
		{`_ = l[:]; _ = l[1:]; _ = l[:i]; _ = ll[t:2]; _ = str[1:2] + "abc"[:1]; _ = u[1:]`, api.OK}, {"_ = @nil[:]", api.ErrOperand}, {"_ = @1[:]", api.ErrOperand}, {"_ = @m[:]", api.ErrOperand}, {"_ = @s[1:2]", api.ErrOperand}, {"_ = @none()[:]", api.ErrValue}, {"_ = @int[:]", api.ErrValue}, {"_ = l[@none():]", api.ErrValue}, {"_ = l[:@int]", api.ErrValue}, {"_ = l[@str:none()]", api.ErrOperand}, {"_ = l[1:@nil]", api.ErrOperand}, {`_ = str[@"a":]`, api.ErrOperand}, {"_ = l[:@yes]", api.ErrOperand}, {"@l[:] = l", api.ErrPlace}, {"var a []int = ll[:]; var b L = l[1:]; print(len(a), len(b))", api.OK}, {"var a string = @u[:]; print(a)", api.ErrAssign}, {`var a U = @"abc"[1:]; print(a)`, api.ErrAssign}, {"const c = @\"abc\"[1:]", api.ErrConst},
		{"_ = face.(T); _ = face.(*E); _ = face.(J); _ = any.(int); _ = any.([]int); _ = wide.(T); _ = face.(Any)", api.OK}, {"_ = @none().(T)", api.ErrValue}, {"_ = @nil.(T)", api.ErrOperand}, {"_ = @1.(T)", api.ErrOperand}, {"_ = @t.(T)", api.ErrOperand}, {"_ = @p.(T)", api.ErrOperand}, {"_ = face.(@E)", api.ErrAssert},
		{"_ = @(&face).(T)", api.ErrOperand}, {"_ = face.(@E)", api.ErrAssert}, {"_ = face.(@int)", api.ErrAssert}, {"_ = face.(@[]int)", api.ErrAssert}, {"_ = wide.(@*E)", api.ErrAssert}, {"_ = face.(@(S))", api.ErrAssert}, {"_ = @T.(T)", api.ErrValue},
	})
}

// TestConversions: Call of a type, of 12.3.
func TestConversions(t *testing.T) {
	refuse(t, []wrong{
		{`_ = T(1) + T(i) + T(t); _ = int(t); _ = string(u); _ = U("a"); _ = B(true); _ = B(i == j); _ = L(l); _ = []int(ll); _ = I(t); _ = Any(1); _ = Any(s); _ = (*S)(pp); _ = P(nil); _ = (*S)(nil); _ = []int(nil); _ = I(nil); _ = F(func(a int) string { return "" }); _ = map[string]int(m); _ = I(wide); _ = T(KT); _ = int(KT); _ = S(s); _ = (T)(1); _ = Any(KT); _ = I(KT)`, api.OK},
		{"_ = T(i@...)", api.ErrUse}, {"_ = T(1, 2@...)", api.ErrUse}, {"_ = @T()", api.ErrCount}, {"_ = @T(1, 2)", api.ErrCount}, {"_ = @[]int()", api.ErrCount}, {"_ = T(@none())", api.ErrValue}, {"_ = T(@two())", api.ErrValue}, {"_ = T(@int)", api.ErrValue},
		{`_ = T(@"a")`, api.ErrConvert}, {"_ = string(@65)", api.ErrConvert}, {"_ = string(@'a')", api.ErrConvert}, {"_ = B(@1)", api.ErrConvert}, {"_ = U(@KT)", api.ErrConvert}, {"_ = S(@1)", api.ErrConvert}, {"_ = I(@1)", api.ErrConvert}, {"_ = []int(@1)", api.ErrConvert}, {"_ = (*S)(@1)", api.ErrConvert}, {"_ = J(@K)", api.ErrConvert}, {`_ = []int(@"abc")`, api.ErrConvert},
		{"_ = T(@str)", api.ErrConvert}, {"_ = string(@i)", api.ErrConvert}, {"_ = string(@t)", api.ErrConvert}, {"_ = int(@u)", api.ErrConvert}, {"_ = S(@e)", api.ErrConvert}, {"_ = I(@s)", api.ErrConvert}, {"_ = I(@e)", api.ErrConvert}, {"_ = T(@face)", api.ErrConvert}, {"_ = L(@lt)", api.ErrConvert}, {"_ = int(@nil)", api.ErrConvert}, {"_ = S(@nil)", api.ErrConvert}, {"_ = T(@nil)", api.ErrConvert}, {"_ = J(@face)", api.ErrConvert}, {"type S2 struct { a int }; _ = S2(@s)", api.ErrConvert}, {"type I2 interface { m() }; _ = I2(face)", api.OK}, {"type T2 T; _ = T2(t) + T2(i)", api.OK},
		{"const c = T(1) + 2; const d T = c; print(c, d)", api.OK}, {"const c = @T(i)", api.ErrConst}, {"const c = @Any(1)", api.ErrConst}, {"const c int = @T(1)", api.ErrAssign}, {"const c = int(T(1)); var a int = c; print(a)", api.OK}, {"_ = T(9223372036854775807 @+ 1)", api.ErrConst}, {"@T(1)", api.ErrUse}, {"@T(1) = 2", api.ErrPlace},
	})
}

// TestCalls: Call of a value, of 12.3.
func TestCalls(t *testing.T) {
	refuse(t, []wrong{
		{`none(); take(1, i); take(two()); _ = text("a"); _ = f(1); func() { }(); func(a int) { print(a) }(1); s.v(); g := []func(){none}; g[0](); (none)(); func(a T, b I, c Any, d *S) { }(1, t, 2, nil); func(a int, b string) { }(mixed())`, api.OK},
		{"@none()()", api.ErrValue}, {"@two()()", api.ErrValue}, {"@1()", api.ErrCall}, {"@nil()", api.ErrCall}, {"@i()", api.ErrCall}, {"@s()", api.ErrCall}, {"@s.a()", api.ErrCall}, {"@K(1)", api.ErrCall}, {"@one()()", api.ErrCall},
		{"@(i)(l...)", api.ErrCall}, {"@face()", api.ErrCall}, {"@\"a\"()", api.ErrCall},
		{"take(1, l@...)", api.ErrUse}, {"none(l@...)", api.ErrUse},
		{"take(two()@...)", api.ErrUse}, {"take(two(), 1@...)", api.ErrUse}, {"take(l /* c */ @... ,)", api.ErrUse},
		{"@text(two())", api.ErrCount}, {"@none(two())", api.ErrCount}, {"take(@mixed())", api.ErrAssign}, {"func(a int, b T) { }(@two())", api.ErrAssign}, {"func(a Any, b Any) { }(mixed())", api.OK}, {"take(@(two()))", api.ErrValue}, {"@(take)(1)", api.ErrCount}, {"take(@none())", api.ErrValue}, {"take(@int)", api.ErrValue}, {"take(1, @none(), 2)", api.ErrValue}, {"take(@two(), none())", api.ErrValue},
		{"@take()", api.ErrCount}, {"@take(1)", api.ErrCount}, {"@take(1, 2, 3)", api.ErrCount}, {"@none(1)", api.ErrCount}, {"@take(\"a\")", api.ErrCount},
		{`take(@"a", 1)`, api.ErrAssign}, {"take(1, @str)", api.ErrAssign}, {"take(1, @t)", api.ErrAssign}, {"take(@nil, 1)", api.ErrAssign}, {"take(@true, nil)", api.ErrAssign}, {"func(a *S) { }(@s)", api.ErrAssign}, {"func(a I) { }(@1)", api.ErrAssign}, {"func(a I) { }(@e)", api.ErrAssign}, {"func(a I) { }(&e)", api.OK}, {"func(a L) { }(l)", api.OK}, {"func(a []T) { }(@l)", api.ErrAssign}, {"_ = f(@t)", api.ErrAssign},
		{"_ = @none()", api.ErrValue}, {"take(one(), i)", api.OK}, {"_ = text(text(text(@1)))", api.ErrAssign},
	})
}

// TestNatives: Call of a universe function, of 12.3.
func TestNatives(t *testing.T) {
	refuse(t, []wrong{
		{"_ = len(str@...)", api.ErrUse}, {"print(l@...)", api.ErrUse}, {"_ = make([]int, i@...)", api.ErrUse}, {"_ = new(int@...)", api.ErrUse}, {"panic(i@...)", api.ErrUse}, {"_ = copy(l, l@...)", api.ErrUse}, {"delete(m, str@...)", api.ErrUse}, {"delete(l@...)", api.ErrUse},
		{`l = append(l, 1, i, 'a'); l = append(l); l = append(l, l...); lt = append(lt, 1, t); l = append(l, nil...); _ = append([]I{}, t, &e, nil); _ = append([]Any{}, 1, "a", nil); ll = append(ll, 2)`, api.OK},
		{"_ = @append()", api.ErrCount}, {"_ = @append(l...)", api.ErrCount}, {"_ = @append(l, 1, l...)", api.ErrCount}, {"_ = append(@none())", api.ErrValue}, {"_ = append(@int, none())", api.ErrValue}, {"_ = append(@two())", api.ErrValue}, {"_ = append(l, @int)", api.ErrValue}, {"_ = append(@nil)", api.ErrOperand},
		{"_ = append(1, @none())", api.ErrValue}, {"_ = append(@1, 2)", api.ErrOperand}, {"_ = append(@str, 2)", api.ErrOperand}, {"_ = append(@m, 2)", api.ErrOperand}, {"_ = append(@nil, nil...)", api.ErrOperand}, {`_ = append(l, 1, @"a", true)`, api.ErrAssign}, {"_ = append(l, @t)", api.ErrAssign}, {"_ = append(l, @nil)", api.ErrAssign}, {"_ = append(l, @l)", api.ErrAssign}, {"_ = append(l, @ll...)", api.ErrAssign}, {"_ = append(ll, @l...)", api.ErrAssign}, {"_ = append(l, @1...)", api.ErrAssign}, {`_ = append(l, @"abc"...)`, api.ErrAssign}, {"_ = append(l, @lt...)", api.ErrAssign}, {"@append(l, 1)", api.ErrUse},
		{"copy(l, l); i = copy(ll, l); _ = copy(l, ll)", api.OK}, {"@copy(l)", api.ErrCount}, {"@copy()", api.ErrCount}, {"@copy(l, l, l)", api.ErrCount}, {"copy(l, @int)", api.ErrValue}, {"copy(@none(), 1)", api.ErrValue}, {"copy(@nil, 1)", api.ErrOperand}, {"copy(@str, 1)", api.ErrOperand}, {"copy(l, @nil)", api.ErrOperand}, {`copy(l, @"a")`, api.ErrOperand}, {"copy(l, @m)", api.ErrOperand}, {"copy(l, @lt)", api.ErrAssign}, {"var a T = @copy(l, l); print(a)", api.ErrAssign},
		{`delete(m, "a"); delete(m, str); delete(map[T]int{}, 1); delete(ms, str)`, api.OK}, {"@delete(m)", api.ErrCount}, {"@delete(m, str, str)", api.ErrCount}, {"delete(@none(), 1)", api.ErrValue}, {"delete(m, @int)", api.ErrValue}, {"delete(@nil, 1)", api.ErrOperand}, {"delete(@l, 1)", api.ErrOperand}, {"delete(@1, 1)", api.ErrOperand}, {"delete(m, @1)", api.ErrAssign}, {"delete(m, @nil)", api.ErrAssign}, {"delete(m, @u)", api.ErrAssign}, {"_ = @delete(m, str)", api.ErrValue},
		{`_ = len(l) + len(ll) + len(m) + len(ms) + len(str) + len(u) + len("abc")`, api.OK}, {"_ = @len()", api.ErrCount}, {"_ = @len(l, l)", api.ErrCount}, {"_ = len(@none())", api.ErrValue}, {"_ = len(@L)", api.ErrValue}, {"_ = len(@nil)", api.ErrOperand}, {"_ = len(@1)", api.ErrOperand}, {"_ = len(@true)", api.ErrOperand}, {"_ = len(@i)", api.ErrOperand}, {"_ = len(@s)", api.ErrOperand}, {"_ = len(@p)", api.ErrOperand}, {"_ = len(@face)", api.ErrOperand}, {"_ = len(@f)", api.ErrOperand}, {`var a T = len("abc"); const c T = len(U("ab")); print(a, c)`, api.OK}, {"var a T = @len(str); print(a)", api.ErrAssign}, {"const c = @len(str)", api.ErrConst}, {"@len(l)", api.ErrUse},
		{"_ = make([]int, 1); _ = make(L, i, t); _ = make(M); _ = make(map[string]int); _ = make([]S, 'a', K); _ = make(([]int), 0)", api.OK}, {"_ = @make()", api.ErrCount}, {"_ = make(@1)", api.ErrType}, {"_ = make(@l, 1)", api.ErrType}, {"_ = make(@none())", api.ErrType}, {"_ = make(@nil)", api.ErrType}, {"_ = make(@int)", api.ErrOperand}, {"_ = make(@S, 1)", api.ErrOperand}, {"_ = make(@*L, 1)", api.ErrOperand}, {"_ = make(@I)", api.ErrOperand}, {"_ = @make(L)", api.ErrCount}, {"_ = @make(L, 1, 2, 3)", api.ErrCount}, {"_ = @make(M, 1)", api.ErrCount}, {"_ = make(L, @none())", api.ErrValue}, {"_ = make(L, str, @none())", api.ErrValue}, {"_ = make(L, @int)", api.ErrValue}, {"_ = make(L, @str, nil)", api.ErrOperand}, {"_ = make(L, 1, @nil)", api.ErrOperand}, {`_ = make(L, @"a")`, api.ErrOperand}, {"_ = make(L, @true)", api.ErrOperand}, {"_ = make(L, -1)", api.OK}, {"@make(M)", api.ErrUse},
		{"_ = new(int); *new(int) = 1; new(S).a = 1; _ = new([]int); _ = new(I)", api.OK}, {"_ = @new()", api.ErrCount}, {"_ = @new(int, int)", api.ErrCount}, {"_ = new(@i)", api.ErrType}, {"_ = new(@none())", api.ErrType}, {"_ = new(@nil)", api.ErrType}, {"@new(int)", api.ErrUse}, {"var a *T = @new(int); print(a == nil)", api.ErrAssign},
		{`panic("a"); panic(i); panic(t); panic(u); panic('a')`, api.OK}, {"@panic()", api.ErrCount}, {"@panic(1, 2)", api.ErrCount}, {"panic(@none())", api.ErrValue}, {"panic(@int)", api.ErrValue}, {"panic(@nil)", api.ErrOperand}, {"panic(@true)", api.ErrOperand}, {"panic(@yes)", api.ErrOperand}, {"panic(@s)", api.ErrOperand}, {"panic(@any)", api.ErrOperand}, {"_ = @panic(1)", api.ErrValue},
		{`print(); print(1, "a", true, i, t, u, by, K, 1 == 2)`, api.OK}, {"print(@none())", api.ErrValue}, {"print(nil, @int)", api.ErrValue}, {"print(1, @two())", api.ErrValue}, {"print(@nil)", api.ErrOperand}, {"print(1, @s, nil)", api.ErrOperand}, {"print(@l)", api.ErrOperand}, {"print(@p)", api.ErrOperand}, {"print(@face)", api.ErrOperand}, {"print(@none)", api.ErrOperand}, {"_ = @print()", api.ErrValue},
	})
	refuse(t, []wrong{
		{"_ = @append[0](1)", api.ErrUse}, {"@len.x()", api.ErrUse}, {"_ = bool(i == j); _ = bool(by); _ = B(yes); const c = bool(true); print(c)", api.OK}, {"_ = bool(@1)", api.ErrConvert},
	})
}

// TestLiterals: FuncLit and Composite of 12.3.
func TestLiterals(t *testing.T) {
	refuse(t, []wrong{
		{"_ = func(a, b int, c string) (int, T) { return a, t }; var q func(int, int, string) (int, T) = func(a, b int, c string) (int, T) { return 1, 2 }; _, _ = q(1, 2, str)", api.OK}, {"var q func() = @func() int { return 1 }; q()", api.ErrAssign}, {`q := func() int { return @"a" }; _ = q() + 1`, api.ErrAssign}, {`_ = func() { _ = 1 @+ "a" }`, api.ErrMix}, {`take(func() int { return @"a" }(), 1)`, api.ErrAssign}, {`@take(func() int { return "a" }())`, api.ErrCount}, {`take(1, @func() { _ = 1 + "a" })`, api.ErrAssign},
		{"_ = @T{}", api.ErrForm}, {"_ = @T{1}", api.ErrForm}, {"_ = @I{}", api.ErrForm}, {"_ = @F{}", api.ErrForm},
		{"_ = P{@a: 1}", api.ErrUnknown}, {"_ = @P{i: 1}", api.ErrForm}, {"_ = T{i: 1 @+ \"a\"}", api.ErrMix},
		{`_ = S{}; _ = S{1}; _ = S{a: i}; _ = E{S{1}, 2, nil}; _ = E{S: s, p: &s, b: t}; _ = E{p: nil}; _ = x.S{A: 1}; _ = x.S{}; type Z struct { }; _ = Z{}; type Q struct { *S; x.T }; _ = Q{S: nil, T: 1}; _ = Q{p, 2}`, api.OK},
		{"_ = @S{a: 1, 2}", api.ErrForm}, {"_ = @S{1, a: 2}", api.ErrForm}, {"_ = @S{1, 2, zz: 3}", api.ErrForm}, {"_ = @S{1, 2}", api.ErrCount}, {"_ = @E{s, 1}", api.ErrCount}, {"_ = @E{s, 1, 2, nil}", api.ErrCount}, {"type Z struct { }; _ = @Z{1}", api.ErrCount}, {"type Z struct { _ int }; _ = @Z{1}", api.ErrCount}, {"_ = S{@b: 1}", api.ErrMember}, {"_ = S{@_: 1}", api.ErrMember}, {"_ = S{@1: 1}", api.ErrMember}, {"_ = S{@(i): 1}", api.ErrMember}, {"_ = S{@s.a: 1}", api.ErrMember}, {`_ = S{1 @+ "a": 1}`, api.ErrMix}, {"_ = E{@a: 1}", api.ErrMember}, {"_ = S{@v: 1}", api.ErrMember}, {"_ = S{@i: 1}", api.ErrMember}, {"_ = S{@x: 1}", api.ErrMember}, {"_ = S{@S: s}", api.ErrMember}, {"_ = E{b: 1, @b: none()}", api.ErrTwice}, {"_ = E{b: 1, S: s, @S: s}", api.ErrTwice}, {"_ = S{a: @none()}", api.ErrValue}, {"_ = S{@int}", api.ErrValue}, {"_ = S{a: @two()}", api.ErrValue}, {`_ = S{a: @"a"}`, api.ErrAssign}, {"_ = S{@nil}", api.ErrAssign}, {"_ = E{s, @i, nil}", api.ErrAssign}, {"_ = E{s, 1, @s}", api.ErrAssign}, {"_ = E{@p, none(), nil}", api.ErrAssign}, {"_ = E{b: @i, zz: 1}", api.ErrAssign},
		{`_ = []int{}; _ = L{1, i, 'a'}; _ = []int{3: 1, 2, 2: 4, 0: 5}; _ = []I{t, nil, &e}; _ = []Any{1, "a", s}; _ = []*S{p, nil}; _ = []int{KT: 1}; _ = []int{1048576: 1}; _ = []int{'a': 1}; _ = [][]int{[]int{1}, nil}`, api.OK},
		{"_ = []int{3: 1, 2, @4: 5}", api.ErrTwice}, {"_ = []int{1: 1, 0: 2, @3}", api.ErrTwice}, {"_ = []int{0, @0: none()}", api.ErrTwice}, {"_ = []int{@none(): 1}", api.ErrValue}, {"_ = []int{@int: 1}", api.ErrValue}, {"_ = []int{@i: 1}", api.ErrOperand}, {`_ = []int{@"a": 1}`, api.ErrOperand}, {"_ = []int{@true: 1}", api.ErrOperand}, {"_ = []int{@nil: 1}", api.ErrOperand}, {"_ = []int{@-1: 1}", api.ErrConst}, {"_ = []int{@1048577: 1}", api.ErrConst}, {"_ = []int{1048576: 1, @2}", api.ErrConst}, {"_ = []int{1048576: 1, 5: 2, 3}", api.OK}, {"_ = []int{@one(): 1}", api.ErrOperand}, {"_ = []int{1, @none()}", api.ErrValue}, {"_ = []int{0: @int}", api.ErrValue}, {`_ = []int{1, @"a", nil}`, api.ErrAssign}, {"_ = []int{@t}", api.ErrAssign}, {"_ = []T{t, 1, @i}", api.ErrAssign}, {"_ = []int{2: @nil}", api.ErrAssign}, {"_ = []I{@1}", api.ErrAssign}, {"_ = []I{@s}", api.ErrAssign},
		{`_ = M{}; _ = M{"a": s, str: S{}}; _ = map[T]int{1: 1, t: 2, KT: 3}; _ = map[string]int{str: 1, str: 2}; _ = map[bool]int{true: 1, false: 2, yes: 3}; _ = map[int]Any{1: nil, 2: 3}`, api.OK}, {"_ = @M{s}", api.ErrForm}, {`_ = @map[string]int{"a": 1, 2}`, api.ErrForm}, {"_ = M{@none(): s}", api.ErrValue}, {"_ = M{@int: s}", api.ErrValue}, {"_ = M{@1: none()}", api.ErrAssign}, {"_ = M{@u: s}", api.ErrAssign}, {"_ = M{@nil: s}", api.ErrAssign}, {`_ = M{"a": s, @"a": none()}`, api.ErrTwice}, {"_ = map[T]int{4: 1, @KT: 2}", api.ErrTwice}, {"_ = map[int]int{1: 1, @2 - 1: 1}", api.ErrTwice}, {"_ = map[bool]int{true: 1, @!false: 1}", api.ErrTwice}, {"_ = M{str: @none()}", api.ErrValue}, {"_ = M{str: @1}", api.ErrAssign}, {"_ = M{str: @nil}", api.ErrAssign}, {"_ = map[string]int{str: @str, nil: 1}", api.ErrAssign},
	})
	refuse(t, []wrong{
		{"a := s; _ = S{@a.a: 1}", api.ErrMember}, {"_ = []bool{@1}", api.ErrAssign}, {"_ = map[bool]int{@1: 1}", api.ErrAssign},
	})
}
