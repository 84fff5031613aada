package parser_test

import (
	"strings"
	"testing"

	"moniker/api"
	"moniker/parser"
	"moniker/tree"
)

// inBody is a file with one function of that Block's statements.
func inBody(s string) string { return "package a; func f() { " + s + " }" }

// bodyShape is the sketch of such a file.
func bodyShape(stmts string) string {
	if stmts != "" {
		stmts = "(" + stmts + ")"
	}
	return "File(Name List List(Func(None Name Sig(List List) Block" + stmts + ")))"
}

func shaped(t *testing.T, text, want string) {
	t.Helper()
	_, x := parsed(t, text)
	if got := tree.Sketch(x); got != want {
		t.Errorf("3.1: %s is\n%s, not\n%s", text, got, want)
	}
}

// stopsAt asks that a text is refused by ErrParse where at stands in it for the last time; "": at its end.
func stopsAt(t *testing.T, text, at string) {
	t.Helper()
	want := api.Fault{Why: api.ErrParse, At: strings.LastIndex(text, at)}
	l, x, f := parser.File(text)
	if f != want || len(l) != 0 || len(x.Nodes) != 0 {
		t.Errorf("3.2: %s: %v (%d pieces, %d nodes), not %v", text, f, len(l), len(x.Nodes), want)
	}
}

func TestSmallest(t *testing.T) {
	name := func(first, end int) api.Node { return api.Node{Kind: api.NodeName, First: first, End: end, Size: 1} }
	list := func(at int) api.Node { return api.Node{Kind: api.NodeList, First: at, End: at, Size: 1} }
	file := func(first, end int) api.Node { return api.Node{Kind: api.NodeFile, First: first, End: end, Size: 4} }
	for _, c := range []struct {
		text string
		want []api.Node
	}{
		{"package a", []api.Node{file(0, 4), name(2, 3), list(4), list(4)}},
		{"package a;", []api.Node{file(0, 4), name(2, 3), list(4), list(4)}},
		{"package a\n", []api.Node{file(0, 4), name(2, 3), list(5), list(5)}},
		{"// x\npackage/**/a ; /**/", []api.Node{file(2, 7), name(4, 5), list(9), list(9)}},
	} {
		_, x := parsed(t, c.text)
		if len(x.Nodes) != 4 || [4]api.Node(x.Nodes) != [4]api.Node(c.want) {
			t.Errorf("3, example 1: %q: %v, not %v", c.text, x.Nodes, c.want)
		}
	}
}

func TestFileLevel(t *testing.T) {
	for _, c := range [][2]string{
		{"package a; import \"x\"; import b \"y\"\n import ()\n import (\"z\"; c \"w\")", "List(Import(ImportSpec(None Text)) Import(ImportSpec(Name Text)) Import Import(ImportSpec(None Text) ImportSpec(Name Text))) List"},
		{"package a; const c = 1; const ( d, e int = 2, 3; f; ); const ()", "List List(Const(ConstSpec(List(Name) None List(Number))) Const(ConstSpec(List(Name Name) Name List(Number Number)) ConstSpec(List(Name) None List)) Const)"},
		{"package a; var x int; var y = 1; var (z p.T = 'c'; w = \"\")", "List List(Var(VarSpec(List(Name) Name List)) Var(VarSpec(List(Name) None List(Number))) Var(VarSpec(List(Name) Select(Name Name) List(Char)) VarSpec(List(Name) None List(Text))))"},
		{"package a; type T U; type (V struct{}; W interface{}); type X (Y)", "List List(Types(TypeSpec(Name Name)) Types(TypeSpec(Name Struct) TypeSpec(Name Interface)) Types(TypeSpec(Name Paren(Name))))"},
		{"package a; type S struct { a, b int; T; p.T; *T; *p.T; f func(); g (T); h []T }", "List List(Types(TypeSpec(Name Struct(Field(List(Name Name) Name) Embed(Name) Embed(Select(Name Name)) Embed(Star(Name)) Embed(Star(Select(Name Name))) Field(List(Name) FuncOf(Shape(List List))) Field(List(Name) Paren(Name)) Field(List(Name) SliceOf(Name))))))"},
		{"package a; type I interface { m(); n(int, p.T,) string; J; p.K }", "List List(Types(TypeSpec(Name Interface(Method(Name Shape(List List)) Method(Name Shape(List(Name Select(Name Name)) List(Name))) Embed(Name) Embed(Select(Name Name))))))"},
		{"package a; var x *map[[]int]func(*T) (A, (B),)", "List List(Var(VarSpec(List(Name) Star(MapOf(SliceOf(Name) FuncOf(Shape(List(Star(Name)) List(Name Paren(Name)))))) List)))"},
		{"package a; func (t) f() { }; func (t T) f() { }; func (p.T) f() { }; func (t *p.T) f() { }; func (*T) f() { }; func (t p.T) f() { }", "List List(" +
			"Func(Recv(None Name) Name Sig(List List) Block) Func(Recv(Name Name) Name Sig(List List) Block) Func(Recv(None Select(Name Name)) Name Sig(List List) Block) " +
			"Func(Recv(Name Star(Select(Name Name))) Name Sig(List List) Block) Func(Recv(None Star(Name)) Name Sig(List List) Block) Func(Recv(Name Select(Name Name)) Name Sig(List List) Block))"},
		{"package a; func f(a, b int, c []string,) { }", "List List(Func(None Name Sig(List(Param(List(Name Name) Name) Param(List(Name) SliceOf(Name))) List) Block))"},
		{"package a; func f() (int) { }; func f() ((int)) { }; func f() int { }; func f() (a, *b,) { }", "List List(" +
			"Func(None Name Sig(List List(Name)) Block) Func(None Name Sig(List List(Paren(Name))) Block) Func(None Name Sig(List List(Name)) Block) Func(None Name Sig(List List(Name Star(Name))) Block))"},
	} {
		shaped(t, c[0], "File(Name "+c[1]+")")
	}
}

func TestFileLevelFaults(t *testing.T) {
	for _, c := range [][2]string{
		{"", ""}, {"package", ""}, {"package a; func f() {", ""}, {"package a; var x = (1", ""}, {"package a; type T struct {", ""}, {"package a; import (", ""},
		{"package a b", "b"}, {"import \"x\"", "import"}, {"package 1", "1"}, {"package a;;", ";"}, {"package a; const c = 1; import \"y\"", "import"},
		{"package a; import x", ""}, {"package a; import x y \"z\"", "y"}, {"package a; import (;)", ";"}, {"package a; import (\"x\" \"y\")", "\"y\""}, {"package a; import 'c'", "'c'"},
		{"package a; import \"x\")", ")"}, {"package a; x = 1", "x"}, {"package a; if x { }", "if"}, {"package a; const ;", ";"}, {"package a; const c int;", ";"}, {"package a; const (c int)", ")"},
		{"package a; var x;", ";"}, {"package a; var (x)", ")"}, {"package a; var x, = 1", "="}, {"package a; var x = ;", ";"}, {"package a; var x = 1,;", ";"},
		{"package a; type T = U", "="}, {"package a; type T;", ";"}, {"package a; type struct", "struct"}, {"package a; var x struct", "struct"}, {"package a; var x interface", "interface"},
		{"package a; type S struct { ; }", "; }"}, {"package a; type S struct { a, T.b int }", "."}, {"package a; type S struct { p.T int }", "int"}, {"package a; type S struct { (T) }", "("}, {"package a; type S struct { a int b int }", "b"}, {"package a; type S struct { **T }", "*T"},
		{"package a; type I interface { *T }", "*"}, {"package a; type I interface { m(a int) }", "int"}, {"package a; type I interface { m, n() }", ","}, {"package a; type I interface { p.m() }", "()"},
		{"package a; func (t, u T) f() { }", ", u"}, {"package a; func () f() { }", ") f"}, {"package a; func (t []T) f() { }", "["}, {"package a; func (t **T) f() { }", "*T"}, {"package a; func (t T,) f() { }", ","}, {"package a; func (t.u v) f() { }", "v"}, {"package a; func (t (T)) f() { }", "(T"},
		{"package a; func f(int) { }", ") {"}, {"package a; func f(a int b int) { }", "b int"}, {"package a; func f(a,) { }", ") {"}, {"package a; func f(,) { }", ","}, {"package a; func f(p.T) { }", "."}, {"package a; func f(a ...int) { }", "..."},
		{"package a; func f();", ";"}, {"package a; func f() () { }", ") {"}, {"package a; func f() (a int) { }", "int"}, {"package a; func f\n()", "\n()"}, {"package a; func 1", "1"},
		{"package a; var x []", ""}, {"package a; var x [3]int", "3"}, {"package a; var x map[int", ""}, {"package a; var x map int", "int"}, {"package a; var x p.1", "1"}, {"package a; var x chan int", "chan"}, {"package a; go f()", "go"}, {"package a; select { }", "select"},
	} {
		stopsAt(t, c[0], c[1])
	}
}

func TestTypesInExpressions(t *testing.T) {
	for _, c := range [][2]string{
		{"x = []func() * y", "Assign(List(Name) List(SliceOf(FuncOf(Shape(List List(Star(Name)))))))"},
		{"x = []func() (y)(z)", "Assign(List(Name) List(Call(SliceOf(FuncOf(Shape(List List(Name)))) List(Name))))"},
		{"x = []a.b", "Assign(List(Name) List(SliceOf(Select(Name Name))))"},
		{"x = []a.b.c", "Assign(List(Name) List(Select(SliceOf(Select(Name Name)) Name)))"},
		{"x = []a.b.(T)", "Assign(List(Name) List(Assert(SliceOf(Select(Name Name)) Name)))"},
		{"x = []a * b", "Assign(List(Name) List(Binary(SliceOf(Name) Name)))"},
		{"x = []a(b)[c]", "Assign(List(Name) List(Index(Call(SliceOf(Name) List(Name)) Name)))"},
		{"x = [](a).b", "Assign(List(Name) List(Select(SliceOf(Paren(Name)) Name)))"},
		{"x = *[]a(b)", "Assign(List(Name) List(Star(Call(SliceOf(Name) List(Name)))))"},
		{"x = map[string][]int{}", "Assign(List(Name) List(Composite(MapOf(Name SliceOf(Name)) List)))"},
		{"x = []func(){}", "Assign(List(Name) List(Composite(SliceOf(FuncOf(Shape(List List))) List)))"},
		{"x = func() {}", "Assign(List(Name) List(FuncLit(Sig(List List) Block)))"},
		{"x = func(a T) T {}(1)", "Assign(List(Name) List(Call(FuncLit(Sig(List(Param(List(Name) Name)) List(Name)) Block) List(Number))))"},
		{"x = make([]int, 1), new(*map[a]b), f(([]T))", "Assign(List(Name) List(Call(Name List(SliceOf(Name) Number)) Call(Name List(Star(MapOf(Name Name)))) Call(Name List(Paren(SliceOf(Name))))))"},
	} {
		shaped(t, inBody(c[0]), bodyShape(c[1]))
	}
	for _, c := range [][2]string{
		{"[]func()[0]", "0"}, {"[]a.(T)", "(T)"}, {"func()", "}"}, {"new(func())", ") }"}, {"func f() { }", "f()"}, {"func(int) { }", ") {"}, {"x.(func(a int))", "int"}, {"[]struct{}{}", "struct"}, {"x = *T{}.(type)", "type"}, {"[...]int{}", "..."},
	} {
		stopsAt(t, inBody(c[0]), c[1])
	}
}

func TestExpressions(t *testing.T) {
	for _, c := range [][2]string{
		{"a - b - c", "Binary(Binary(Name Name) Name)"}, {"a - b * c", "Binary(Name Binary(Name Name))"}, {"a == b == c", "Binary(Binary(Name Name) Name)"},
		{"a || b && c == d + e * f", "Binary(Name Binary(Name Binary(Name Binary(Name Binary(Name Name)))))"},
		{"a * b + c == d && e || f", "Binary(Binary(Binary(Binary(Binary(Name Name) Name) Name) Name) Name)"},
		{"-a.b", "Sign(Select(Name Name))"}, {"-a * b", "Binary(Sign(Name) Name)"}, {"* & ^ ! + -a", "Star(Sign(Sign(Sign(Sign(Sign(Name))))))"}, {"a - -b", "Binary(Name Sign(Name))"},
		{"f()", "Call(Name List)"}, {"f(a, b...,)", "Call(Name List(Name Name))"}, {"f(a,)", "Call(Name List(Name))"}, {"f(a...)", "Call(Name List(Name))"},
		{"a[b]", "Index(Name Name)"}, {"a[:]", "Slice(Name None None)"}, {"a[b:]", "Slice(Name Name None)"}, {"a[:b]", "Slice(Name None Name)"}, {"a[b:c]", "Slice(Name Name Name)"},
		{"a.(*T)", "Assert(Name Star(Name))"}, {"a.b.c(1)[2].d", "Select(Index(Call(Select(Select(Name Name) Name) List(Number)) Number) Name)"},
		{"T{}", "Composite(Name List)"}, {"p.T{}", "Composite(Select(Name Name) List)"}, {"T{a, b: c, 'd': \"e\",}", "Composite(Name List(Name Pair(Name Name) Pair(Char Text)))"}, {"T{}.f", "Select(Composite(Name List) Name)"}, {"T{U{}}", "Composite(Name List(Composite(Name List)))"},
		{"(a)", "Paren(Name)"}, {"(a).b", "Select(Paren(Name) Name)"}, {"&T{}", "Sign(Composite(Name List))"},
	} {
		shaped(t, inBody(c[0]), bodyShape("Do("+c[1]+")"))
	}
	for _, op := range []string{"*", "/", "%", "<<", ">>", "&", "&^", "+", "-", "|", "^", "==", "!=", "<", "<=", ">", ">=", "&&", "||"} {
		shaped(t, inBody("x "+op+" y"), bodyShape("Do(Binary(Name Name))"))
	}
	for _, c := range [][2]string{
		{"a +", "}"}, {"(a", "}"}, {"()", ")"}, {"f(,)", ","}, {"f(a, ...)", "..."}, {"f(a... b)", "b)"}, {"f(a..., b)", "b)"}, {"f(...)", "..."}, {"a[]", "]"}, {"a[b:c:d]", ":d"}, {"a[b, c]", ","}, {"a.1", "1"}, {"a.()", ")"}, {"a <- b", "<-"}, {"~a", "~"},
		{"a.b.c{}", "{"}, {"(T){}", "{"}, {"f(){}", "{"}, {"T{}{}", "{}"}, {"T{,}", ","}, {"T{{}}", "{}}"}, {"T{a: b: c}", ": c"}, {"T{\na\n}", "\n}"}, {"f(\na\n)", "\n)"}, {"[]T{a b}", "b"}, {"a b", "b"}, {"1.5", "5"}, {"else", "else"},
	} {
		stopsAt(t, inBody(c[0]), c[1])
	}
}
