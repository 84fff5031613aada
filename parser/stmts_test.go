package parser_test

import "testing"

func TestStatements(t *testing.T) {
	for _, c := range [][2]string{
		{"", ""}, {";", "Empty"}, {";;", "Empty Empty"}, {"f();", "Do(Call(Name List))"}, {"L:", "Label(Name Empty)"}, {"L: ;", "Label(Name Empty)"}, {"L: M: ; ;", "Label(Name Label(Name Empty)) Empty"},
		{"L: for { }", "Label(Name For(None None None Block))"}, {"L: var x int", "Label(Name Var(VarSpec(List(Name) Name List)))"}, {"{ }; { ; }", "Block Block(Empty)"},
		{"const c = 1; var x int; type T U", "Const(ConstSpec(List(Name) None List(Number))) Var(VarSpec(List(Name) Name List)) Types(TypeSpec(Name Name))"},
		{"return", "Return(List)"}, {"return a, b", "Return(List(Name Name))"}, {"break; break L; continue; continue L; fallthrough", "Break(None) Break(Name) Continue(None) Continue(Name) Fall"},
		{"x++; y--", "Step(Name) Step(Name)"}, {"*p++", "Step(Star(Name))"}, {"a.b, c[d] = e, f", "Assign(List(Select(Name Name) Index(Name Name)) List(Name Name))"}, {"a, b := c()", "Define(List(Name Name) List(Call(Name List)))"},
		{"a, b += 1, 2", "Assign(List(Name Name) List(Number Number))"}, {"_ = a", "Assign(List(Name) List(Name))"},
	} {
		shaped(t, inBody(c[0]), bodyShape(c[1]))
	}
	for _, op := range []string{"=", "+=", "-=", "*=", "/=", "%=", "&=", "|=", "^=", "<<=", ">>=", "&^="} {
		shaped(t, inBody("x "+op+" y"), bodyShape("Assign(List(Name) List(Name))"))
	}
	for _, c := range [][2]string{
		{"a, b", "}"}, {"a, b;", "; }"}, {"a, b++", "++"}, {"a, = b", "= b"}, {"(a) := 1", ":="}, {"a.b := 1", ":="}, {"a, 1 := 1", ":="}, {"a := ", "}"}, {"a = b = c", "= c"}, {"x++ y", "y"}, {"x++ + y", "+ y"},
		{"f() g()", "g()"}, {"{ } { }", "{ } }"}, {"return return", "return }"}, {"break 1", "1"}, {"break a.b", "."}, {"fallthrough L", "L"}, {"case 1:", "case"}, {"default:", "default"}, {"L: case", "case"}, {"goto L", "goto"}, {"defer f()", "defer"}, {"import \"x\"", "import"}, {"package a", "package"}, {"x = range y", "range"}, {"a : = b", "= b"}, {"1: f()", ":"}, {"x.(type)", "type"}, {"x := y.(type)", "type"},
		{"const c int", "}"}, {"var x", "}"}, {"}", "}"},
	} {
		stopsAt(t, inBody(c[0]), c[1])
	}
}

func TestIf(t *testing.T) {
	for _, c := range [][2]string{
		{"if x { }", "If(None Name Block None)"}, {"if x := 1; y { }", "If(Define(List(Name) List(Number)) Name Block None)"}, {"if ; x { }", "If(None Name Block None)"}, {"if f(); x { }", "If(Do(Call(Name List)) Name Block None)"},
		{"if x++\n y { }", "If(Step(Name) Name Block None)"}, {"if x { } else { }", "If(None Name Block Block)"}, {"if x { } else if y { } else { }", "If(None Name Block If(None Name Block Block))"},
		{"if x == T { }", "If(None Binary(Name Name) Block None)"}, {"if x == p.T { }", "If(None Binary(Name Select(Name Name)) Block None)"}, {"if x == (T{}) { }", "If(None Binary(Name Paren(Composite(Name List))) Block None)"},
		{"if f(T{}) { }", "If(None Call(Name List(Composite(Name List))) Block None)"}, {"if x[T{}] { }", "If(None Index(Name Composite(Name List)) Block None)"}, {"if x[T{}:T{}] { }", "If(None Slice(Name Composite(Name List) Composite(Name List)) Block None)"},
		{"if []T{T{}} == nil { }", "If(None Binary(Composite(SliceOf(Name) List(Composite(Name List))) Name) Block None)"}, {"if map[K]V{} == nil { }", "If(None Binary(Composite(MapOf(Name Name) List) Name) Block None)"}, {"if []func() T { } { }", "If(None Composite(SliceOf(FuncOf(Shape(List List(Name)))) List) Block None)"},
		{"if func() bool { return T{} == u }() { }", "If(None Call(FuncLit(Sig(List List(Name)) Block(Return(List(Binary(Composite(Name List) Name))))) List) Block None)"},
		{"if func() { if x { } }() { }", "If(None Call(FuncLit(Sig(List List) Block(If(None Name Block None))) List) Block None)"}, {"if (x) { T{} }", "If(None Paren(Name) Block(Do(Composite(Name List))) None)"},
		{"if f(x) == T { }", "If(None Binary(Call(Name List(Name)) Name) Block None)"}, {"if x.(T) { }", "If(None Assert(Name Name) Block None)"},
	} {
		shaped(t, inBody(c[0]), bodyShape(c[1]))
	}
	for _, c := range [][2]string{
		{"if { }", "{ }"}, {"if ; { }", "{ }"}, {"if x; { }", "{ }"}, {"if x := 1 { }", "{ }"}, {"if x++ { }", "{ }"}, {"if a, b { }", "{ }"}, {"if x\n { }", "{ }"}, {"if x; y; z { }", "; z"}, {"if x := T{}; y { }", "{}"},
		{"if x ; y = z { }", "="}, {"if x { } else x", "x }"}, {"if x { } else for { }", "for"}, {"if x { }\n else { }", "else"}, {"if x = range y { }", "range"}, {"if x.(type) { }", "type"}, {"if L: x { }", ":"}, {"if x == T{} { }", "{ }"}, {"if var x int; y { }", "var"}, {"if x) { }", ")"},
	} {
		stopsAt(t, inBody(c[0]), c[1])
	}
}

func TestSwitch(t *testing.T) {
	for _, c := range [][2]string{
		{"switch { }", "Switch(None None List)"}, {"switch x { }", "Switch(None Name List)"}, {"switch ; { }", "Switch(None None List)"}, {"switch a; { }", "Switch(Do(Name) None List)"}, {"switch x := 1; x { }", "Switch(Define(List(Name) List(Number)) Name List)"}, {"switch T { }", "Switch(None Name List)"}, {"switch a\n b { }", "Switch(Do(Name) Name List)"},
		{"switch x { case 1, T{}: f(); case 2: default: g() }", "Switch(None Name List(Case(List(Number Composite(Name List)) Block(Do(Call(Name List)))) Case(List(Number) Block) Default(Block(Do(Call(Name List))))))"},
		{"switch { case x: ; ; default: L: }", "Switch(None None List(Case(List(Name) Block(Empty Empty)) Default(Block(Label(Name Empty)))))"}, {"switch { default: default: }", "Switch(None None List(Default(Block) Default(Block)))"},
		{"switch x := y.(type) { }", "Match(None Name Name List)"}, {"switch y.(type) { }", "Match(None None Name List)"}, {"switch a; y.(type) { }", "Match(Do(Name) None Name List)"}, {"switch a := b; x := y.(type) { }", "Match(Define(List(Name) List(Name)) Name Name List)"}, {"switch ; x := f(y).z.(T).(type) { }", "Match(None Name Assert(Select(Call(Name List(Name)) Name) Name) List)"},
		{"switch (y).(type) { }", "Match(None None Paren(Name) List)"}, {"switch []T{}.(type) { }", "Match(None None Composite(SliceOf(Name) List) List)"}, {"switch y.(T).(type) { }", "Match(None None Assert(Name Name) List)"},
		{"switch y.(type) { case T, nil: ; case *p.T, []T, func(T) T, map[a]b, (T): default: f() }", "Match(None None Name List(Case(List(Name Name) Block(Empty)) Case(List(Star(Select(Name Name)) SliceOf(Name) FuncOf(Shape(List(Name) List(Name))) MapOf(Name Name) Paren(Name)) Block) Default(Block(Do(Call(Name List))))))"},
		{"switch func() { switch y.(type) { case T: } }(); x { case 1: }", "Switch(Do(Call(FuncLit(Sig(List List) Block(Match(None None Name List(Case(List(Name) Block))))) List)) Name List(Case(List(Number) Block)))"},
	} {
		shaped(t, inBody(c[0]), bodyShape(c[1]))
	}
	for _, c := range [][2]string{
		{"switch a, b := y.(type) { }", "type"}, {"switch (y.(type)) { }", "type"}, {"switch -y.(type) { }", "type"}, {"switch x = y.(type) { }", "type"}, {"switch x := *y.(type) { }", "type"}, {"switch x := a, y.(type) { }", "type"}, {"switch a, y.(type) { }", "type"}, {"switch a + y.(type) { }", "type"}, {"switch f(y.(type)) { }", "type"}, {"switch x := f(y.(type)) { }", "type"}, {"switch func() { y.(type) }() { }", "type"}, {"switch y.(type) { case x.(type): }", "(type):"}, {"switch x { case y.(type): }", "type"}, {"switch a; b, x := y.(type) { }", ","},
		{"switch y.(type); { }", "; {"}, {"switch y.(type) + 1 { }", "+"}, {"switch y.(type).z { }", ".z"}, {"switch y.(type), z { }", ","}, {"switch x := y.(type), z { }", ","}, {"switch y.(type) := z { }", ":="}, {"switch y.(type)++ { }", "++"}, {"switch x++.(type) { }", ".("}, {"switch y.(type T) { }", "T"},
		{"switch a; x := y { }", "{ }"}, {"switch a; x := -y { }", "-"}, {"switch a; x := y + z { }", "+"}, {"switch a; x := y; { }", "; {"}, {"switch a; x := y.(T) { }", "{ }"}, {"switch a; (x) := y { }", ":="}, {"switch a; x.z := y { }", ":="}, {"switch a; x = y { }", "="}, {"switch a; x++ { }", "++"}, {"switch a; b; { }", "; {"}, {"switch ; ; { }", "; {"},
		{"switch x := 1 { }", "{ }"}, {"switch a, b { }", "{ }"}, {"switch T{} { }", "{ }"}, {"switch x++ { }", "{ }"}, {"switch x\n { x }", "x }"},
		{"switch x { f() }", "f()"}, {"switch x { ; }", "; }"}, {"switch x { case: }", ":"}, {"switch x { case 1, : }", ": }"}, {"switch x { case 1 }", "} }"}, {"switch x { default 1: }", "1"}, {"switch x { case 1: f() case 2: }", "case 2"}, {"switch x { case 1: L: case 2: }", "case 2"}, {"switch x { case 1: return default: }", "default"},
		{"switch y.(type) { case 1: }", "1"}, {"switch y.(type) { case T{}: }", "{}"}, {"switch x { case func(): }", ": }"},
	} {
		stopsAt(t, inBody(c[0]), c[1])
	}
}

func TestFor(t *testing.T) {
	for _, c := range [][2]string{
		{"for { }", "For(None None None Block)"}, {"for x { }", "For(None Name None Block)"}, {"for ;; { }", "For(None None None Block)"}, {"for x := 0; x < y; x++ { }", "For(Define(List(Name) List(Number)) Binary(Name Name) Step(Name) Block)"}, {"for ; x; { }", "For(None Name None Block)"}, {"for ;; a, b = b, a { }", "For(None None Assign(List(Name Name) List(Name Name)) Block)"}, {"for f()\n x\n g() { }", "For(Do(Call(Name List)) Name Do(Call(Name List)) Block)"},
		{"for x == T { }", "For(None Binary(Name Name) None Block)"}, {"for ;; T { }", "For(None None Do(Name) Block)"}, {"for a, b, c = 1, 2, 3; ; { }", "For(Assign(List(Name Name Name) List(Number Number Number)) None None Block)"},
		{"for range x { }", "Range(List Name Block)"}, {"for range []T{} { }", "Range(List Composite(SliceOf(Name) List) Block)"}, {"for range T { }", "Range(List Name Block)"}, {"for a = range x { }", "Range(List(Name) Name Block)"}, {"for a, b = range x { }", "Range(List(Name Name) Name Block)"}, {"for a.b, c[d] = range x { }", "Range(List(Select(Name Name) Index(Name Name)) Name Block)"}, {"for a, b := range x { }", "Range(List(Name Name) Name Block)"}, {"for _ := range x { }", "Range(List(Name) Name Block)"},
	} {
		shaped(t, inBody(c[0]), bodyShape(c[1]))
	}
	for _, c := range [][2]string{
		{"for a, b, c = range x { }", "range"}, {"for a, b, c := range x { }", "range"}, {"for a += range x { }", "range"}, {"for a range x { }", "range"}, {"for a++ range x { }", "range"}, {"for a = b range x { }", "range"}, {"for (a) := range x { }", ":="}, {"for a.b := 1; ; { }", ":="}, {"for range { }", "{ }"}, {"for a = range x; ; { }", "; ;"}, {"for ; range x; { }", "range"}, {"for ;; a = range x { }", "range"}, {"for range a, b { }", ","},
		{"for ;; x := 1 { }", ":="}, {"for ;; (x) := 1 { }", ":="}, {"for x := 1 { }", "{ }"}, {"for x++ { }", "{ }"}, {"for a, b { }", "{ }"}, {"for ; { }", "{ }"}, {"for x; { }", "{ }"}, {"for x; y { }", "{ }"}, {"for ;;; { }", "; {"}, {"for x\n { }", "{ }"}, {"for ;; x++\n { }", "\n {"}, {"for ; x = y; { }", "= y"}, {"for ; x++; { }", "++"}, {"for x := T{}; ; { }", "{}"}, {"for ; T{}; { }", "{}"}, {"for x.(type) { }", "type"}, {"for x { } else { }", "else"}, {"for x y { }", "y"},
	} {
		stopsAt(t, inBody(c[0]), c[1])
	}
}
