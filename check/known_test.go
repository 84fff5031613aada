package check_test

import (
	"slices"
	"strings"
	"testing"

	"moniker/api"
	"moniker/consts"
)

// told is what is known of the nodes of func main's file whose text is that: their type ("-": none), and, if they are constants, the value behind a =; all nodes that there are, or, behind a #, the one of that number from 0 on.
type told struct{ text, want string }

// knows holds what is known of statements of func main, behind head, against what is told.
func knows(t *testing.T, lines string, all []told) {
	t.Helper()
	marker := "func main() {\n"
	x := checked(t, files("a: "+head+marker+lines+"\n}\n", "x/b: "+beside))
	for _, c := range all {
		text, number, _ := strings.Cut(c.text, "#")
		nodes := slices.DeleteFunc(x.nodes(0, text), func(n int) bool {
			k := x.p.Tree(0).Nodes[n]
			return x.p.Tokens(0)[k.First].From < strings.Index(x.p.Files()[0].Text, marker)+len(marker) || !isExpr(k.Kind)
		})
		if number != "" {
			nodes = nodes[number[0]-'0' : number[0]-'0'+1]
		}
		if len(nodes) == 0 {
			t.Errorf("%s has no %s", lines, text)
		}
		for _, n := range nodes {
			got := x.t.Show(x.Type(0, n))
			if got == "" {
				got = "-"
			}
			if v, ok := x.Const(0, n); ok {
				got += "=" + consts.Show(v)
			}
			if got = strings.ReplaceAll(got, `"".`, ""); got != c.want {
				t.Errorf("12.5, 12.7: %s: %s is %s, not %s", lines, c.text, got, c.want)
			}
			if l := x.Types(0, n); x.Type(0, n) >= 0 && !slices.Equal(l, []int{x.Type(0, n)}) {
				t.Errorf("12.6: %s: %v", text, l)
			}
		}
	}
}

// TestTypes: 12.5, 12.6 and 12.7.
func TestTypes(t *testing.T) {
	knows(t, "print(t + 1, 7 << 2, \"a\" + \"b\", 3 < 4, -5, !true)", []told{{"t + 1", "T"}, {"1", "T=1"}, {"7 << 2", "int=28"}, {"7", "int=7"}, {"2", "int=2"}, {`"a" + "b"`, `string="ab"`}, {`"a"`, `string="a"`}, {"3 < 4", "bool=true"}, {"3", "int=3"}, {"-5", "int=-5"}, {"!true", "bool=false"}, {"true", "bool=true"}, {"print", "-"}, {"t", "T"}})
	knows(t, "var a T = 1 + 2; var b T = (3); var c Any = 4; var d I = nil; var g, h U = \"x\", (\"y\" + \"z\"); print(a, b, c == nil, d == nil, g, h)", []told{{"1 + 2", "T=3"}, {"1", "int=1"}, {"2", "int=2"}, {"(3)", "T=3"}, {"3", "T=3"}, {"4", "int=4"}, {"nil#0", "I"}, {"nil#1", "Any"}, {"nil#2", "I"}, {`"x"`, `U="x"`}, {`("y" + "z")`, `U="yz"`}, {`"y" + "z"`, `U="yz"`}, {`"y"`, `string="y"`}, {"a#0", "T"}, {"a#1", "T"}, {"c", "Any"}, {"d", "I"}, {"g", "U"}})
	knows(t, "a, b := 1, \"x\"; a, c := 2, true; const k, kt = 5, T(6); _, _, _ = b, c, k + a; var d = nil == p; print(d, kt)", []told{{"a#0", "int"}, {"a#1", "int"}, {"a#2", "int"}, {"b", "string"}, {"c", "bool"}, {"k#0", "int"}, {"k#1", "int=5"}, {"kt#0", "T"}, {"kt#1", "T=6"}, {"6", "T=6"}, {"T(6)", "T=6"}, {"T", "-"}, {"_", "-"}, {"nil", "*S"}, {"nil == p", "bool"}, {"k + a", "int"}, {"d", "bool"}})
	knows(t, "_ = 1 << i; _ = t << 2; _ = i << t; var a T = 3 << 4; _ = a; _ = 5 << 6 >> 7; _ = l[8]; _ = map[T]int{9: 10}[11]; _ = []int{12: 13}", []told{{"1 << i", "int"}, {"1", "int=1"}, {"t << 2", "T"}, {"2", "int=2"}, {"i << t", "int"}, {"3 << 4", "T=48"}, {"3", "int=3"}, {"4", "int=4"}, {"5 << 6 >> 7", "int=2"}, {"5 << 6", "int=320"}, {"8", "int=8"}, {"l[8]", "int"}, {"9", "T=9"}, {"10", "int=10"}, {"11", "T=11"}, {"12", "int=12"}, {"13", "int=13"}, {"map[T]int{9: 10}", "map[T]int"}, {"[]int{12: 13}", "[]int"}})
	knows(t, "take(1, 'a'); func(a T, b Any, c *S, d F) { }(2, 3, nil, (nil)); _ = text(\"x\"); take(two()); none(); delete(m, \"y\"); panic(4); _ = append(lt, 5, t); _ = append(l, nil...); _ = make([]int, 6, 7); _ = new(T); _ = len(\"abc\"); _ = len(str); copy(l, l)", []told{{"1", "int=1"}, {"'a'", "int=97"}, {"2", "T=2"}, {"3", "int=3"}, {"nil#0", "*S"}, {"(nil)", "F"}, {"nil#1", "F"}, {`text("x")`, "string"}, {"text", "func(string) string"}, {"take", "func(int, int)"}, {"take(1, 'a')", "-"}, {"two()", "-"}, {"two", "func() (int, int)"}, {"none()", "-"}, {"4", "int=4"}, {"5", "T=5"}, {"append(lt, 5, t)", "[]T"}, {"nil#2", "[]int"}, {"make([]int, 6, 7)", "[]int"}, {"new(T)", "*T"}, {`len("abc")`, "int=3"}, {`"abc"`, `string="abc"`}, {"len(str)", "int"}, {"copy(l, l)", "int"}, {"append", "-"}, {"len", "-"}, {"copy", "-"}, {"panic(4)", "-"}})
	knows(t, "_ = s.a; _ = e.m; _ = face.m; _ = S.v; _ = (*E).m; _ = I.m; _ = e.S; _ = &e; _ = *p; _ = *pp; _ = x.C; _ = x.V.A; _ = x.F; _ = x.Big; _ = S{a: 1}; _ = E{s, 2, nil}; _ = face.(T); _ = str[0]; _ = u[1:]; _ = \"abc\"[:2]; _ = ll[:]; _ = func(a, b int, c T) string { return \"\" }", []told{{"s.a", "int"}, {"s#0", "S"}, {"a#0", "-"}, {"a#1", "-"}, {"a#2", "int"}, {"e.m", "func()"}, {"face.m", "func()"}, {"S.v", "func(S) int"}, {"(*E).m", "func(*E)"}, {"I.m", "func(I)"}, {"I", "-"}, {"(*E)", "-"}, {"*E", "-"}, {"e.S", "S"}, {"&e", "*E"}, {"*p", "S"}, {"*pp", "S"}, {"x.C", "int=1"}, {"x", "-"}, {"C", "-"}, {"x.V", "\"x\".S"}, {"x.V.A", "int"}, {"x.F", "func(int) \"x\".T"}, {"x.Big", "\"x\".T=2"}, {"S{a: 1}", "S"}, {"1#0", "int=1"}, {"2#0", "T=2"}, {"nil", "*S"}, {"E{s, 2, nil}", "E"}, {"face.(T)", "T"}, {"T", "-"}, {"str[0]", "int"}, {"0", "int=0"}, {"u[1:]", "U"}, {`"abc"[:2]`, "string"}, {"ll[:]", "L"}, {`func(a, b int, c T) string { return "" }`, "func(int, int, T) string"}, {"c", "T"}, {"b", "int"}})
	knows(t, "v, ok := m[\"x\"]; w, isT := face.(T); var h, by2 = m[\"y\"]; print(v, ok, w, isT, h, by2); y, z := mixed(); print(y, z)", []told{{`m["x"]`, "int"}, {`m["y"]`, "int"}, {"face.(T)", "T"}, {"v", "int"}, {"ok", "bool"}, {"w", "T"}, {"isT", "bool"}, {"h", "int"}, {"by2", "bool"}, {"mixed()", "-"}, {"y", "int"}, {"z", "string"}})
	knows(t, "for a, b := range lt { print(a, b) }; for c := range t { print(c) }; for d := range 3 { print(d) }; for g, h := range ms { print(g, h.a) }; for i, j = range \"ab\" { }; for k, q := range \"cd\" { print(k, q) }", []told{{"a#0", "int"}, {"b", "T"}, {"c", "T"}, {"d", "int"}, {"3", "int=3"}, {"g", "string"}, {"h", "S"}, {"i", "int"}, {`"ab"`, `string="ab"`}, {"q", "int"}})
	knows(t, "switch 1 { case i, 2: }; switch t { case 3, t: }; switch { case yes, 4 == 5: }; switch p { case nil: }; switch y := any.(type) { case nil: _ = y; case int: print(y + 6); case T, U: _ = y; case I: y.m(); default: func() { _ = y }() }", []told{{"1", "int=1"}, {"2", "int=2"}, {"3", "T=3"}, {"4 == 5", "bool=false"}, {"nil#0", "*S"}, {"nil#1", "-"}, {"y#0", "-"}, {"y#1", "Any"}, {"y#2", "int"}, {"6", "int=6"}, {"y#3", "Any"}, {"y#4", "I"}, {"y#5", "Any"}, {"y + 6", "int"}})
	knows(t, "if by && true { }; by = false || by; by = !(1 == 2); yes = i == 3 && (j) != 4; t += 5; t <<= 6; t++; u += \"x\"; any = 7; any = (\"y\"); f = nil; _ = U(\"z\"); _ = T('b') + T(i); _ = Any(8); _ = I(nil); _ = (*S)((nil)); _ = B(9 < 10)", []told{{"true", "B=true"}, {"false", "B=false"}, {"!(1 == 2)", "B=true"}, {"(1 == 2)", "bool=false"}, {"i == 3", "bool"}, {"3", "int=3"}, {"(j)", "int"}, {"j", "int"}, {"i == 3 && (j) != 4", "bool"}, {"5", "T=5"}, {"6", "int=6"}, {`"x"`, `U="x"`}, {"7", "int=7"}, {`("y")`, `string="y"`}, {"nil#0", "F"}, {`U("z")`, `U="z"`}, {`"z"`, `U="z"`}, {"'b'", "T=98"}, {"T(i)", "T"}, {"Any(8)", "Any"}, {"8", "int=8"}, {"nil#1", "I"}, {"nil#2", "*S"}, {"(nil)", "*S"}, {"9 < 10", "B=true"}, {"B(9 < 10)", "B=true"}, {"t#0", "T"}})
	knows(t, "const ( a = 1 << iota; b; c T = 10 + iota; d ); print(a, b, c, d); const g = iota; print(g)", []told{{"1 << iota", "int=1"}, {"iota#0", "int=0"}, {"iota#1", "int=2"}, {"10 + iota", "T=12"}, {"a#0", "int"}, {"a#1", "int=1"}, {"b#0", "int"}, {"b#1", "int=2"}, {"c#0", "T"}, {"c#1", "T=12"}, {"d#1", "T=13"}, {"g#1", "int=0"}})
	knows(t, "_ = func() (int, T, *S) { return 1, 2, nil }; _ = func() (int, int) { return two() }; _ = func() Any { return 3 }", []told{{"1", "int=1"}, {"2", "T=2"}, {"nil", "*S"}, {"3", "int=3"}, {"two()", "-"}})
}

// TestCallTypes: 12.6 of Calls, and of nodes that are no expressions.
func TestCallTypes(t *testing.T) {
	x := checked(t, files("a: package main; func f(a int) (int, string) { return a, \"\" }; func g() { }; type T struct { b int }; func (t *T) m() (T, *T) { return *t, t }; func main() { f(1); g(); L: for { break L }; t := T{b: 2}; _, _ = t.m(); _ = f }"))
	for _, c := range []told{{"f(1)", "int, string"}, {"g()", ""}, {"t.m()", `"".T, *"".T`}, {"g", "func()"}, {"f", "func(int) (int, string)"}, {"L", ""}, {"b", ""}, {"main", ""}, {"T", ""}, {"T{b: 2}", `"".T`}, {"2", "int"}, {"a", "int"}, {"t#0", `*"".T`}} {
		text, number, _ := strings.Cut(c.text, "#")
		nodes := slices.DeleteFunc(x.nodes(0, text), func(n int) bool { return !isExpr(x.p.Tree(0).Nodes[n].Kind) })
		if text == "g" || text == "f" || number != "" { // the last is the use, the first the declaration
			nodes = nodes[len(nodes)-1:]
			if number != "" {
				nodes = slices.DeleteFunc(x.nodes(0, text), func(n int) bool { return !isExpr(x.p.Tree(0).Nodes[n].Kind) })[:1]
			}
		}
		for _, n := range nodes {
			var got []string
			for _, id := range x.Types(0, n) {
				got = append(got, x.t.Show(id))
			}
			if s := strings.Join(got, ", "); s != c.want {
				t.Errorf("12.6: %s is %s, not %s", c.text, s, c.want)
			}
		}
	}
	for n, k := range x.p.Tree(0).Nodes {
		if !isExpr(k.Kind) && (x.Type(0, n) != -1 || len(x.Types(0, n)) != 0) {
			t.Errorf("12.5: node %d of kind %d has a type", n, k.Kind)
		}
		if k.Kind == api.NodeName && x.p.Word(api.Place{Token: k.First}) == "f" && n < 10 && x.Type(0, n) != -1 {
			t.Error("12.5: the Name of a Func has a type")
		}
	}
}

// TestMembers: 12.8.
func TestMembers(t *testing.T) {
	x := checked(t, files("a: package main; type A struct { a int; B; *C }; type B struct { b int; I }; type C struct { c int }; func (c C) m2() { }; type I interface { J; m(); k() }; type J interface { m(); K }; type K interface { m(); n() }\nfunc f(v A, i I, w *A) { _ = v.a; _ = v.b; _ = v.c; v.m(); v.m2(); i.m(); i.n(); i.k(); _ = w.B.b; _ = v.B; _ = v.C.c; w.n(); I.m(i); _ = A.m2; _ = (*A).m; _ = A{a: 1, B: B{b: 2, I: i}, C: nil} }\nfunc main() { }"))
	for _, c := range []struct {
		word    string
		number  int
		members string
		way     string
	}{
		{"a", 2, "A.a", ""}, {"b", 2, "B.b", "A.B"}, {"c", 3, "C.c", "A.C"}, {"m", 4, "I.m J.m K.m", "A.B B.I"}, {"m2", 2, "C.m2", "A.C"}, {"m", 5, "I.m J.m K.m", ""}, {"n", 2, "K.n", ""}, {"k", 2, "I.k", ""}, {"b", 3, "B.b", ""}, {"c", 4, "C.c", ""}, {"n", 3, "K.n", "A.B B.I"}, {"m", 6, "I.m J.m K.m", ""}, {"m2", 3, "C.m2", "A.C"}, {"m", 7, "I.m J.m K.m", "A.B B.I"}, {"a", 3, "A.a", ""}, {"b", 4, "B.b", ""},
		{"a", 1, "", ""}, {"m", 1, "", ""}, {"v", 1, "", ""}, {"v", 2, "", ""}, {"f", 1, "", ""}, {".", 1, "", ""}, {"main", 1, "", ""},
	} {
		at := x.where(c.word, c.number)
		if got := x.names(x.Members(at)); got != c.members {
			t.Errorf("12.8: %s %d: %s, not %s", c.word, c.number, got, c.members)
		}
		if got := x.names(x.Way(at)); got != c.way {
			t.Errorf("12.8: %s %d: by %s, not %s", c.word, c.number, got, c.way)
		}
	}
	keys := 0
	for k := range x.p.Tokens(0) {
		at := api.Place{Token: k}
		if l := x.Members(at); len(l) > 0 {
			keys++
			if !slices.IsSorted(l) || x.decls[l[0]].Name != x.p.Word(at) {
				t.Errorf("12.8: %s: %s", x.p.Word(at), x.names(l))
			}
		}
	}
	if keys != 22 {
		t.Errorf("12.8: %d bound to members", keys)
	}
	y := checked(t, files("a: package main; import \"x\"; var v = x.V.A; var w = x.S{A: x.C}; var z = x.F; func main() { print(v, w.A, z(1) == 2) }", "x/b: "+beside))
	for _, c := range []struct {
		word    string
		number  int
		members string
	}{{"V", 1, ""}, {"A", 1, "S.A"}, {"A", 2, "S.A"}, {"C", 1, ""}, {"F", 1, ""}, {"A", 3, "S.A"}, {"x", 1, ""}} {
		if got := y.names(y.Members(y.where(c.word, c.number))); got != c.members || len(y.Way(y.where(c.word, c.number))) != 0 {
			t.Errorf("12.8: %s %d: %s, not %s", c.word, c.number, got, c.members)
		}
	}
}

// TestStart: 12.9.
func TestStart(t *testing.T) {
	for _, c := range []told{
		{"type T int", ""}, {"var a int; var b, c = 1, 2; var _ = 3", "a b c _"}, {"var a = b; var b = c; var c = 1", "c b a"}, {"var a, b int; var c, _, d string", "a b c _ d"}, {"var a = f(); func f() int { return func() int { return b }() }; var b = 1", "b a"}, {"var a = f(); type T int; func f() int { return T(1).m() }; func (t T) m() int { return b }; var b = 1", "b a"}, {"var a = b + c; var b = f(); var c = 1; func f() int { return d }; var d = 2", "c d b a"}, {"var a, b = f(); var c = b; var d = 1; func f() (int, int) { return d, d }", "d a c"}, {"var _, a = f(); var b = a; func f() (int, int) { return c, 1 }; var c = 2", "c _ b"}, {"var a, b = c, d; var c, d = b, 1", "d b c a"}, {"type T int; func (t T) m() int { return x }; var a = T(1).m(); var x = 1", "x a"}, {"type T int; func (t T) m() int { return x }; type I interface { m() int }; var i I = T(1); var a = i.m(); var x = 1", "i a x"}, {"var a = func() int { return b }; var b = 1", "b a"}, {"var a = f; func f() { g() }; func g() { f(); _ = b }; var b = 1; var c = 2", "b a c"}, {"type S struct { a, b int }; var s = S{a: 1, b: b}; var a = 1; var b = 2", "a b s"}, {"const k = 1; var a = k; var b = a", "a b"}, {"var z = g(); var y = h(); var x = 1; func g() int { return h() }; func h() int { return x }", "x z y"}, {"var m, ok = map[int]int{}[n]; var n = 1", "n m"}, {"var a = b.f; type S struct { f int }; var b S", "b a"}, {"func init() { _ = a }; var a = b; var b = 1; func main() { }", "b a"},
	} {
		text := "package main; " + c.text
		if !strings.Contains(text, "func main(") {
			text += "; func main() { }"
		}
		if got := checked(t, files("a: "+text)).starts(); got != c.want {
			t.Errorf("12.9: %s: %s, not %s", c.text, got, c.want)
		}
	}
	x := checked(t, files("a: package main; import \"x\"; var a = x.V; var b = c; func main() { print(a, b) }", "x/b: package x; var V = W; var W = 1", "b: package main; var c = 1", "y/c: package y; var Y = 1"))
	if got := x.starts(); got != "W V a c b Y" {
		t.Errorf("12.9: %s", got)
	}
}
