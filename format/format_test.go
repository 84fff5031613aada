package format_test

import (
	"slices"
	"strings"
	"testing"

	"moniker/api"
	"moniker/format"
	"moniker/parser"
)

// laidOut asks for the Format of a source, and for what follows from it.
func laidOut(t *testing.T, source, want string) {
	t.Helper()
	text := shown(source)
	laid, fault := format.Format(text)
	if laid != shown(want) || fault != (api.Fault{}) {
		t.Errorf("F2: %q: %q, %v, not %q", source, laid, fault, shown(want))
		return
	}
	list, _ := format.Edits(text)
	close, _ := format.Tight(text)
	follows(t, text, laid, close, list)
}

func TestExamples(t *testing.T) {
	for _, c := range [][2]string{
		{"package p ; func f ( a,b int)(int){return a+b}", "package p⏎func f(a, b int) (int) {⏎⇥return a + b⏎}⏎"},
		{"package p⏎⏎⏎⏎var x=- -1//c", "package p⏎⏎var x = - -1 //c⏎"},
		{"package p;func f(){switch(1)⏎{}}", "package p⏎func f() {⏎⇥switch (1); {}⏎}⏎"},
		{"package p;func f(){L:for;;{}}", "package p⏎func f() {⏎⇥L: for;; {}⏎}⏎"},
		{"package p;type T struct{};func(t*T)m(){}", "package p⏎type T struct{}⏎func (t *T) m() {}⏎"},
		{"package p;func f(){if x:=1;x>0{}else{L:;}}", "package p⏎func f() {⏎⇥if x := 1; x > 0 {} else {⏎⇥⇥L:;⏎⇥}⏎}⏎"},
		{"package p;func f(){switch{case true:;default:g()}}", "package p⏎func f() {⏎⇥switch {⏎⇥case true:⏎⇥⇥;⏎⇥default:⏎⇥⇥g()⏎⇥}⏎}⏎"},
	} {
		laidOut(t, c[0], c[1])
	}
	laid, _ := format.Format("package p ; func f ( a,b int)(int){return a+b}")
	if s, _ := format.Tight(laid); s != "package p;func f(a,b int)(int){return a+b}" {
		t.Errorf("F3: %q", s)
	}
}

// TestRows: each row of F2's table, in a variable's value or type.
func TestRows(t *testing.T) {
	for _, c := range [][2]string{
		{"=a/**/+b", "= a /**/ + b"}, {"=f(/*1*/)", "= f( /*1*/ )"}, {"=a/**/./**/b", "= a /**/ . /**/ b"}, {"=-/*1*/-a", "= - /*1*/ -a"}, {"=f/*1*/(a/*2*/,b)", "= f /*1*/ (a /*2*/ , b)"},
		{"=f(a ,b , c... , )", "= f(a, b, c...,)"}, {"=( a )", "= (a)"}, {"=a [ 1 ]", "= a[1]"}, {"=T { a : 1 , }", "= T{a: 1,}"},
		{"=a . b . c", "= a.b.c"}, {"=a . ( T )", "= a.(T)"}, {"=1 . b", "= 1.b"},
		{"=T { }", "= T{}"}, {"=T { 1 }", "= T{1}"}, {"=T { - 1 }", "= T{-1}"}, {"=T { ( 1 ) , U { } }", "= T{(1), U{}}"},
		{"=- a", "= -a"}, {"=- - a", "= - -a"}, {"=+ + a", "= + +a"}, {"=& & a", "= & &a"}, {"=& ^ a", "= & ^a"}, {"=^ & a", "= ^&a"}, {"=^ ^ a", "= ^^a"}, {"=! ! a", "= !!a"}, {"=- + a", "= -+a"}, {"=* * a", "= **a"}, {"=* & a", "= *&a"}, {"=& * a", "= &*a"}, {"=! ( a )", "= !(a)"}, {"=& T { }", "= &T{}"}, {"=& [ ] T { }", "= &[]T{}"}, {"=- 1", "= -1"}, {"=- 'a'", "= -'a'"}, {"=* func ( ) { }", "= *func() {}"}, {"=& map [ K ] V { }", "= &map[K]V{}"}, {"=- - - a", "= - - -a"},
		{"=a - - b", "= a - -b"}, {"=a & ^ b", "= a & ^b"}, {"=a &^ b", "= a &^ b"}, {"=a / * b", "= a / *b"}, {"=a * * b", "= a * *b"}, {"=a-b", "= a - b"}, {"=a<<b|c", "= a << b | c"},
		{"=a [ : ]", "= a[:]"}, {"=a [ 1 : ]", "= a[1:]"}, {"=a [ : 2 ]", "= a[:2]"}, {"=a [ 1 : 2 ]", "= a[1:2]"}, {"=a [ - 1 : - 2 ]", "= a[-1:-2]"}, {"=a [ 1 : ( b ) ]", "= a[1:(b)]"}, {"=a [ b : [ ] T { } ]", "= a[b:[]T{}]"},
		{"=f ( ) ( ) [ 1 ] ( 2 ) [ 3 : ]", "= f()()[1](2)[3:]"}, {"=func ( a T ) ( U ) { }", "= func(a T) (U) {}"}, {"=func ( ) T { } ( )", "= func() T {}()"}, {"=( f ) ( a )", "= (f)(a)"},
		{"func ( T ) ( U , V )", "func(T) (U, V)"}, {"func ( ) func ( ) T", "func() func() T"}, {"[ ] func ( )", "[]func()"}, {"func ( ) [ ] T", "func() []T"}, {"func ( ) * T", "func() *T"}, {"func ( ) map [ K ] V", "func() map[K]V"},
		{"map [ K ] V", "map[K]V"}, {"map [ [ ] K ] * V", "map[[]K]*V"}, {"map [ K ] ( V )", "map[K](V)"}, {"map [ K ] func ( )", "map[K]func()"}, {"[ ] [ ] T", "[][]T"}, {"[ ] map [ K ] V", "[]map[K]V"}, {"[ ] ( T )", "[](T)"}, {"* * p . T", "**p.T"}, {"( T )", "(T)"}, {"T=a", "T = a"}, {"[ ]T=[ ]T{ }", "[]T = []T{}"},
		{"=map [ K ] V { a : b , c : - d }", "= map[K]V{a: b, c: -d}"}, {"=[ ] T ( a )", "= []T(a)"}, {"=f ( [ ] T , map [ K ] V )", "= f([]T, map[K]V)"}, {"=\"a\"+`b\r`", "= \"a\" + `b\r`"}, {"=a&&!b||c", "= a && !b || c"},
	} {
		laidOut(t, "package p;var x "+c[0], "package p⏎var x "+c[1]+"⏎")
	}
}

// TestItems: each kind of item has a line of its own, each kind of frame stands around some or is empty.
func TestItems(t *testing.T) {
	for _, c := range [][2]string{
		{"package p", "package p⏎"}, {"package p;", "package p⏎"}, {" ⏎⇥package⏎⏎p⏎⏎⏎", "package p⏎"},
		{"package p;import \"a\";import b \"c\";import _ `d`", "package p⏎import \"a\"⏎import b \"c\"⏎import _ `d`⏎"},
		{"package p;import();import(\"a\");import(b \"c\";\"d\";)", "package p⏎import ()⏎import (⏎⇥\"a\"⏎)⏎import (⏎⇥b \"c\"⏎⇥\"d\"⏎)⏎"},
		{"package p;const();const a=1;const(a=1;b;c,d T=2,3)", "package p⏎const ()⏎const a = 1⏎const (⏎⇥a = 1⏎⇥b⏎⇥c, d T = 2, 3⏎)⏎"},
		{"package p;var();var a T;var(a,b T;c=1)", "package p⏎var ()⏎var a T⏎var (⏎⇥a, b T⏎⇥c = 1⏎)⏎"},
		{"package p;type();type T U;type(T struct{a int;b,c U;*V;p.W;};U interface{m();p.V;W};V(T))", "package p⏎type ()⏎type T U⏎type (⏎⇥T struct {⏎⇥⇥a int⏎⇥⇥b, c U⏎⇥⇥*V⏎⇥⇥p.W⏎⇥}⏎⇥U interface {⏎⇥⇥m()⏎⇥⇥p.V⏎⇥⇥W⏎⇥}⏎⇥V (T)⏎)⏎"},
		{"package p;type T struct {};type U interface {};type V struct {//a⏎}", "package p⏎type T struct{}⏎type U interface{}⏎type V struct { //a⏎}⏎"},
		{"package p;func f(){};func(T)m(){};func(t p.T)n()(a,b){}", "package p⏎func f() {}⏎func (T) m() {}⏎func (t p.T) n() (a, b) {}⏎"},
		{"package p;func f(){a();{b();{}};;return}", "package p⏎func f() {⏎⇥a()⏎⇥{⏎⇥⇥b()⏎⇥⇥{}⏎⇥}⏎⇥;⏎⇥return⏎}⏎"},
		{"package p;func f(){const a=1;var(b T);type(c struct{d T});var()}", "package p⏎func f() {⏎⇥const a = 1⏎⇥var (⏎⇥⇥b T⏎⇥)⏎⇥type (⏎⇥⇥c struct {⏎⇥⇥⇥d T⏎⇥⇥}⏎⇥)⏎⇥var ()⏎}⏎"},
		{"package p;func f(){if a{b()}else if c{d()}else{e()}}", "package p⏎func f() {⏎⇥if a {⏎⇥⇥b()⏎⇥} else if c {⏎⇥⇥d()⏎⇥} else {⏎⇥⇥e()⏎⇥}⏎}⏎"},
		{"package p;func f(){if a{}else if;b{}}", "package p⏎func f() {⏎⇥if a {} else if; b {}⏎}⏎"},
		{"package p;func f(){switch a{};switch{};switch a;b{};switch;{};switch;a{}}", "package p⏎func f() {⏎⇥switch a {}⏎⇥switch {}⏎⇥switch a; b {}⏎⇥switch; {}⏎⇥switch; a {}⏎}⏎"},
		{"package p;func f(){switch a{case b,c:d();e();case f:default:}}", "package p⏎func f() {⏎⇥switch a {⏎⇥case b, c:⏎⇥⇥d()⏎⇥⇥e()⏎⇥case f:⏎⇥default:⏎⇥}⏎}⏎"},
		{"package p;func f(){switch a.(type){};switch a;b:=c.(type){case[]T,*U:return;default:fallthrough}}", "package p⏎func f() {⏎⇥switch a.(type) {}⏎⇥switch a; b := c.(type) {⏎⇥case []T, *U:⏎⇥⇥return⏎⇥default:⏎⇥⇥fallthrough⏎⇥}⏎}⏎"},
		{"package p;func f(){for{};for a{};for a:=1;a<2;a++{b()};for;;a--{};for;a;{}}", "package p⏎func f() {⏎⇥for {}⏎⇥for a {}⏎⇥for a := 1; a < 2; a++ {⏎⇥⇥b()⏎⇥}⏎⇥for;; a-- {}⏎⇥for; a; {}⏎}⏎"},
		{"package p;func f(){for range a{};for a=range b{};for a,b:=range c{continue}}", "package p⏎func f() {⏎⇥for range a {}⏎⇥for a = range b {}⏎⇥for a, b := range c {⏎⇥⇥continue⏎⇥}⏎}⏎"},
		{"package p;func f(){A:B:for{break A};C:{};D:var(a T);E:}", "package p⏎func f() {⏎⇥A: B: for {⏎⇥⇥break A⏎⇥}⏎⇥C: {}⏎⇥D: var (⏎⇥⇥a T⏎⇥)⏎⇥E:⏎}⏎"},
		{"package p;func f(){;L:;;M:;a();;}", "package p⏎func f() {⏎⇥;⏎⇥L:;⏎⇥;⏎⇥M:;⏎⇥a()⏎⇥;⏎}⏎"},
		{"package p;func f(){switch{case a:L:;default:M:}}", "package p⏎func f() {⏎⇥switch {⏎⇥case a:⏎⇥⇥L:;⏎⇥default:⏎⇥⇥M:⏎⇥}⏎}⏎"},
		{"package p;func f(){a++;b--;c,d=e,f;g+=h;i:=j;return k,l;continue m}", "package p⏎func f() {⏎⇥a++⏎⇥b--⏎⇥c, d = e, f⏎⇥g += h⏎⇥i := j⏎⇥return k, l⏎⇥continue m⏎}⏎"},
		{"package p;var x=f(func(){a();func(){b()}()},func(){c()})", "package p⏎var x = f(func() {⏎⇥a()⏎⇥func() {⏎⇥⇥b()⏎⇥}()⏎}, func() {⏎⇥c()⏎})⏎"},
		{"package p;var(x=func(){a()};y T)", "package p⏎var (⏎⇥x = func() {⏎⇥⇥a()⏎⇥}⏎⇥y T⏎)⏎"},
		{"package p;func f(){if func()bool{a();return b}(){c()}}", "package p⏎func f() {⏎⇥if func() bool {⏎⇥⇥a()⏎⇥⇥return b⏎⇥}() {⏎⇥⇥c()⏎⇥}⏎}⏎"},
		{"package p;func f(){switch func()T{a()}(){case func(){b()}:c()}}", "package p⏎func f() {⏎⇥switch func() T {⏎⇥⇥a()⏎⇥}() {⏎⇥case func() {⏎⇥⇥b()⏎⇥}:⏎⇥⇥c()⏎⇥}⏎}⏎"},
		{"package p;func f(){switch{case a:switch{case b:c()};{d()}}}", "package p⏎func f() {⏎⇥switch {⏎⇥case a:⏎⇥⇥switch {⏎⇥⇥case b:⏎⇥⇥⇥c()⏎⇥⇥}⏎⇥⇥{⏎⇥⇥⇥d()⏎⇥⇥}⏎⇥}⏎}⏎"},
	} {
		laidOut(t, c[0], c[1])
	}
}

// TestBreaks: line feeds of the source, of which two or more leave one line empty.
func TestBreaks(t *testing.T) {
	for _, c := range [][2]string{
		{"package p⏎var a=1⏎⏎var b=2⏎⏎⏎⏎var c=3", "package p⏎var a = 1⏎⏎var b = 2⏎⏎var c = 3⏎"},
		{"package p;⏎⏎var a=1;⏎var b=2⏎⏎", "package p⏎⏎var a = 1⏎var b = 2⏎"},
		{"package p⏎ ⇥⏎⇥var a T", "package p⏎⏎var a T⏎"},
		{"package p⏎func f(){⏎⏎⏎a()⏎⏎b()⏎⏎}", "package p⏎func f() {⏎⇥a()⏎⏎⇥b()⏎}⏎"},
		{"package p⏎var(⏎⏎a T⏎⏎b T⏎⏎)", "package p⏎var (⏎⇥a T⏎⏎⇥b T⏎)⏎"},
		{"package p⏎func f(){⏎⏎}", "package p⏎func f() {}⏎"},
		{"package p⏎func f(){⏎switch a{⏎⏎case b:⏎⏎c()⏎⏎default:⏎⏎}⏎}", "package p⏎func f() {⏎⇥switch a {⏎⇥case b:⏎⏎⇥⇥c()⏎⏎⇥default:⏎⇥}⏎}⏎"},
		{"package p⏎var a=f(⏎⏎1,⏎⏎2,⏎⏎)", "package p⏎var a = f(1, 2,)⏎"},
		{"package p⏎var a=T{⏎⏎1,⏎⏎}", "package p⏎var a = T{1,}⏎"},
		{"package p⏎var a=⏎⏎1+⏎⏎2", "package p⏎var a = 1 + 2⏎"},
		{"//a⏎⏎//b⏎//c⏎⏎⏎package p", "//a⏎⏎//b⏎//c⏎⏎package p⏎"},
		{"package p⏎func f(){//a⏎⏎b()//c⏎⏎//d⏎⏎}", "package p⏎func f() { //a⏎⏎⇥b() //c⏎⏎⇥//d⏎}⏎"},
		{"package p⏎func f(){⏎⏎//a⏎}", "package p⏎func f() {⏎⇥//a⏎}⏎"},
		{"package p⏎var a=T{⏎⏎//b⏎⏎}", "package p⏎var a = T{⏎⏎⇥//b⏎⏎⇥}⏎"},
		{"package p⏎var a=T{⏎//b⏎}", "package p⏎var a = T{⏎⇥//b⏎⇥}⏎"},
		{"package p⏎func f(){a();/*⏎⏎*/b()/*⏎⏎*/}", "package p⏎func f() {⏎⇥a() /*⏎⏎*/⏎⇥b() /*⏎⏎*/⏎}⏎"},
		{"package p⏎func f(){a()⏎/*b*/⏎/*c*/d()}", "package p⏎func f() {⏎⇥a()⏎⇥/*b*/⏎⇥/*c*/⏎⇥d()⏎}⏎"},
		{"package p⏎func f(){a();⏎ ⏎;b()}", "package p⏎func f() {⏎⇥a()⏎⏎⇥;⏎⇥b()⏎}⏎"},
		{"package p\r⏎\r⏎var a T\r⏎", "package p⏎⏎var a T⏎"},
	} {
		laidOut(t, c[0], c[1])
	}
}

// TestNotes: comments behind a piece and not, and how deep those are that begin a line.
func TestNotes(t *testing.T) {
	for _, c := range [][2]string{
		{"//a \r\t\r⏎package p//b \t⏎//c", "//a⏎package p //b⏎//c⏎"},
		{"/*a */package/*b*/p/*c*/;/*d*/", "/*a */⏎package /*b*/ p /*c*/ /*d*/⏎"},
		{"// ⏎package p", "//⏎package p⏎"}, {"/* */package p", "/* */⏎package p⏎"},
		{"package⏎//a⏎p⏎⏎//b", "package⏎⇥//a⏎⇥p⏎⏎//b⏎"},
		{"package//a⏎p", "package //a⏎⇥p⏎"}, {"package⏎/*a*/p", "package⏎⇥/*a*/ p⏎"},
		{"package p;import(//a⏎\"b\";//c⏎//d⏎)//e", "package p⏎import ( //a⏎⇥\"b\" //c⏎⇥//d⏎) //e⏎"},
		{"package p⏎⇥//a⏎import()⏎⇥//b⏎var x T", "package p⏎//a⏎import ()⏎//b⏎var x T⏎"},
		{"package p;var x=f(a,//c⏎b)", "package p⏎var x = f(a, //c⏎⇥b)⏎"},
		{"package p;var x=f(//a⏎//b⏎/*c*/d,/*e*/⏎/*f*/g)", "package p⏎var x = f( //a⏎⇥//b⏎⇥/*c*/ d, /*e*/⏎⇥/*f*/ g)⏎"},
		{"package p;var(x=a+//b⏎c)", "package p⏎var (⏎⇥x = a + //b⏎⇥⇥c⏎)⏎"},
		{"package p;type T struct{//a⏎b T//c⏎//d⏎}", "package p⏎type T struct { //a⏎⇥b T //c⏎⇥//d⏎}⏎"},
		{"package p;type T struct⏎//a⏎{}", "package p⏎type T struct⏎⇥//a⏎⇥{}⏎"},
		{"package p;type T interface{/*a*/}", "package p⏎type T interface { /*a*/⏎}⏎"},
		{"package p;func f(){/*a*/}", "package p⏎func f() { /*a*/⏎}⏎"}, {"package p;func f()/*a*/{}", "package p⏎func f() /*a*/ {}⏎"},
		{"package p;func f(){⏎//a⏎}", "package p⏎func f() {⏎⇥//a⏎}⏎"},
		{"package p;func f(){⏎//a⏎b()⏎//c⏎}⏎//d", "package p⏎func f() {⏎⇥//a⏎⇥b()⏎⇥//c⏎}⏎//d⏎"},
		{"package p;func f(){switch a{⏎//b⏎}}", "package p⏎func f() {⏎⇥switch a {⏎⇥//b⏎⇥}⏎}⏎"},
		{"package p;func f(){switch a.(type){⏎//b⏎}}", "package p⏎func f() {⏎⇥switch a.(type) {⏎⇥//b⏎⇥}⏎}⏎"},
		{"package p;func f(){switch a{⏎//b⏎//c⏎case d:⏎//e⏎case f:⏎//g⏎h()⏎//i⏎default:⏎//j⏎}}", "package p⏎func f() {⏎⇥switch a {⏎⇥//b⏎⇥//c⏎⇥case d:⏎⇥⇥//e⏎⇥case f:⏎⇥⇥//g⏎⇥⇥h()⏎⇥⇥//i⏎⇥default:⏎⇥⇥//j⏎⇥}⏎}⏎"},
		{"package p;func f(){switch a.(type){⏎//b⏎default:⏎//c⏎}}", "package p⏎func f() {⏎⇥switch a.(type) {⏎⇥//b⏎⇥default:⏎⇥⇥//c⏎⇥}⏎}⏎"},
		{"package p;func f(){switch a{case//b⏎c,//d⏎e://f⏎}}", "package p⏎func f() {⏎⇥switch a {⏎⇥case //b⏎⇥⇥c, //d⏎⇥⇥e: //f⏎⇥}⏎}⏎"},
		{"package p;func f(){if a{//b⏎}else{//c⏎}//d⏎}", "package p⏎func f() {⏎⇥if a { //b⏎⇥} else { //c⏎⇥} //d⏎}⏎"},
		{"package p;func f(){if a{}else//b⏎{}}", "package p⏎func f() {⏎⇥if a {} else //b⏎⇥⇥{}⏎}⏎"},
		{"package p;func f(){if a ==⏎//b⏎c{⏎//d⏎}}", "package p⏎func f() {⏎⇥if a ==⏎⇥⇥//b⏎⇥⇥c {⏎⇥⇥//d⏎⇥}⏎}⏎"},
		{"package p;func f(){L:⏎//a⏎b()}", "package p⏎func f() {⏎⇥L:⏎⇥⇥//a⏎⇥⇥b()⏎}⏎"},
		{"package p;func f(){L://a⏎}", "package p⏎func f() {⏎⇥L: //a⏎}⏎"}, {"package p;func f(){L:⏎//a⏎}", "package p⏎func f() {⏎⇥L:⏎⇥//a⏎}⏎"},
		{"package p;func f(){L://a⏎;switch{case b:M:⏎//c⏎;}}", "package p⏎func f() {⏎⇥L: //a⏎⇥;⏎⇥switch {⏎⇥case b:⏎⇥⇥M:⏎⇥⇥//c⏎⇥⇥;⏎⇥}⏎}⏎"},
		{"package p;func f(){L:/*a*/;}", "package p⏎func f() {⏎⇥L: /*a*/ ;⏎}⏎"}, {"package p;func f(){/*a*/;}", "package p⏎func f() { /*a*/⏎⇥;⏎}⏎"},
		{"package p;func f(){a()/*b*/;/*c*/;/*d*/}", "package p⏎func f() {⏎⇥a() /*b*/ /*c*/⏎⇥; /*d*/⏎}⏎"},
		{"package p;func f(){a()⏎/*b*/⏎;c()}", "package p⏎func f() {⏎⇥a()⏎⇥/*b*/⏎⇥;⏎⇥c()⏎}⏎"},
		{"package p;var x=func(){//a⏎b()//c⏎}", "package p⏎var x = func() { //a⏎⇥b() //c⏎}⏎"},
		{"package p;var x=a/*b⏎c*/var y=d+/*e⏎*/f", "package p⏎var x = a /*b⏎c*/⏎var y = d + /*e⏎*/ f⏎"},
		{"package p//\xff⏎/*\xfe*/", "package p //\xff⏎/*\xfe*/⏎"},
		{"package p//a", "package p //a⏎"}, {"package p/*a*/", "package p /*a*/⏎"}, {"package p⏎//", "package p⏎//⏎"},
	} {
		laidOut(t, c[0], c[1])
	}
}

// TestHeaders: autos in headers are written.
func TestHeaders(t *testing.T) {
	for _, c := range [][2]string{
		{"for a:=1⏎a<2⏎a++{}", "for a := 1; a < 2; a++ {}"}, {"for a⏎;{}", "for a;; {}"}, {"for a⏎b⏎{}", "for a; b; {}"}, {"for;a⏎{}", "for; a; {}"}, {"for a/*⏎*/;{}", "for a; /*⏎*/ ; {}"},
		{"if a⏎b{}", "if a; b {}"}, {"if a//b⏎c{}", "if a; //b⏎⇥⇥c {}"}, {"if a⏎⏎//b⏎c{}", "if a;⏎⏎⇥⇥//b⏎⇥⇥c {}"}, {"if a/*b⏎*/(c){}", "if a; /*b⏎*/ (c) {}"},
		{"switch a⏎{}", "switch a; {}"}, {"switch a++⏎b{}", "switch a++; b {}"}, {"switch a⏎//b⏎{}", "switch a;⏎⇥⇥//b⏎⇥⇥{}"}, {"switch a⏎⏎{}", "switch a; {}"}, {"switch a()⏎b.(type){}", "switch a(); b.(type) {}"}, {"switch a /*b*/ ⏎/*c*/d:=e.(type){}", "switch a; /*b*/⏎⇥⇥/*c*/ d := e.(type) {}"},
		{"if a{}else if b⏎c{}", "if a {} else if b; c {}"}, {"if a;//b⏎c{}", "if a; //b⏎⇥⇥c {}"}, {"for;//a⏎;//b⏎{}", "for; //a⏎⇥⇥; //b⏎⇥⇥{}"}, {"for/*a*/;/*b*/;{}", "for /*a*/ ; /*b*/ ; {}"},
	} {
		laidOut(t, "package p;func f(){"+c[0]+"}", "package p⏎func f() {⏎⇥"+c[1]+"⏎}⏎")
	}
}

func TestTight(t *testing.T) {
	for _, c := range [][2]string{
		{"package p⏎⏎func f(a, b int) (int) { // c⏎⇥return a + b⏎}⏎", "package p;func f(a,b int)(int){return a+b}"},
		{"package p⏎func f() { ; ; x = a - -b; y = a / *p }", "package p;func f(){;;x=a- -b;y=a/ *p}"},
		{"package p⏎func f() { L:⏎}", "package p;func f(){L:}"}, {"package p;func f(){L:;}", "package p;func f(){L:;}"}, {"package p;func f(){a();}", "package p;func f(){a()}"}, {"package p;func f(){a();;}", "package p;func f(){a();;}"}, {"package p;func f(){a()⏎;}", "package p;func f(){a();;}"},
		{"package p;", "package p"}, {"package p //a⏎ /*b*/", "package p"}, {"package é", "package é"},
		{"package p;import(\"a\";b \"c\"⏎);const(a;b)", "package p;import(\"a\";b\"c\");const(a;b)"},
		{"package p;type(T struct{a int;b T⏎};U interface{m()⏎V;})", "package p;type(T struct{a int;b T};U interface{m();V})"},
		{"package p;func f(){switch(1)⏎{case 1:a();case \"b\":c()⏎default:}}", "package p;func f(){switch(1);{case 1:a();case\"b\":c();default:}}"},
		{"package p;func f(){for⏎{};for;;{};for a⏎;{}}", "package p;func f(){for{};for;;{};for a;;{}}"},
		{"package p;func f(){if a⏎b{}else if c{}else{}}", "package p;func f(){if a;b{}else if c{}else{}}"},
		{"package p;func f(){switch a:=b.(type){}}", "package p;func f(){switch a:=b.(type){}}"},
		{"package p;var x=a & ^b", "package p;var x=a& ^b"}, {"package p;var x=a && & b", "package p;var x=a&&&b"}, {"package p;var x=a & & b", "package p;var x=a& &b"}, {"package p;var x=a + + b", "package p;var x=a+ +b"}, {"package p;var x=a < - b", "package p;var x=a< -b"}, {"package p;var x=a > - b", "package p;var x=a>-b"}, {"package p;var x=a &^ ^ b", "package p;var x=a&^^b"}, {"package p;var x=a - + b", "package p;var x=a-+b"}, {"package p;var x=a ^ ^ b", "package p;var x=a^^b"}, {"package p;var x=a * * b", "package p;var x=a**b"}, {"package p;var x= * a", "package p;var x=*a"}, {"package p;var x= & a", "package p;var x=&a"}, {"package p;var x= ! a", "package p;var x=!a"}, {"package p;var x=a == ! b", "package p;var x=a==!b"}, {"package p;var x=f(a ...)", "package p;var x=f(a...)"}, {"package p;var x=a . b", "package p;var x=a.b"}, {"package p;var x=1 . b", "package p;var x=1.b"}, {"package p;var x=a[1 :2]", "package p;var x=a[1:2]"}, {"package p;var x=T{a : 'b'}", "package p;var x=T{a:'b'}"}, {"package p;var x=`a` + \"b\"", "package p;var x=`a`+\"b\""},
		{"package p;func f(){return 1;return a;return \"b\";return 'c';return -d;return (e);return []T{};return func(){}}", "package p;func f(){return 1;return a;return\"b\";return'c';return-d;return(e);return[]T{};return func(){}}"},
		{"package p;func f(){a ++;b --;c += - d;e = - f;g := & h;i = * j}", "package p;func f(){a++;b--;c+=-d;e=-f;g:=&h;i=*j}"},
		{"package p;func f(){for a = range 1{};for range b{}}", "package p;func f(){for a=range 1{};for range b{}}"},
	} {
		s, fault := format.Tight(shown(c[0]))
		if s != c[1] || fault != (api.Fault{}) {
			t.Errorf("F3: %q: %q, %v, not %q", c[0], s, fault, c[1])
		}
	}
}

func TestAlike(t *testing.T) {
	long := strings.Repeat("a", api.MaxName)
	for _, c := range []struct {
		a, b string
		want bool
	}{
		{"package p; var x = a", "package p // c\nvar x = a;", true}, {"package p; var x = a", "package p; var x = b", false}, {"package", "package", false}, {"package p", "package", false}, {"package", "package p", false}, {"", "", false}, {"package p", "package p;", true}, {"package p", "package q", false},
		{"package p; func f() {}", "package p; func f() {;}", false}, {"package p; func f() { a(); }", "package p; func f() { a() }", true}, {"package p; func f() { a();; }", "package p; func f() { a() }", false},
		{"package p; func f() { return\nx }", "package p; func f() { return x }", false}, {"package p; func f() { return;x }", "package p; func f() { return\nx }", true},
		{"package p; func f() { for {} }", "package p; func f() { for ;; {} }", true}, {"package p; func f() { for a {} }", "package p; func f() { for ;a; {} }", true}, {"package p; func f() { for a {} }", "package p; func f() { for a;; {} }", false}, {"package p; func f() { switch a {} }", "package p; func f() { switch a; {} }", false},
		{"package p; var x = 1", "package p; var x = 01", false}, {"package p; var x = 1", "package p; var x = 0x1", false}, {"package p; var x = \"a\"", "package p; var x = `a`", false}, {"package p; var x = 'a'", "package p; var x = \"a\"", false}, {"package p; var x = a + b", "package p; var x = a - b", false}, {"package p; var x = a + b", "package p; var x = (a + b)", false}, {"package p; var x = f(a,)", "package p; var x = f(a)", false},
		{"package p; var x T", "package p; const x T", false}, {"package p; var x T", "package p; var (x T)", false}, {"package p; var x T; var y T", "package p; var x T", false}, {"package p; /*a*/ var x T", "package p; var x /*b*/ T", true}, {"package p; var x = a // b\n", "package p; var x = a // c\n", true}, {"package " + long, "package " + long + "\n", true}, {"package " + long + "a", "package " + long + "a", false},
	} {
		if got := format.Alike(c.a, c.b); got != c.want {
			t.Errorf("F4: Alike(%q, %q) = %v", c.a, c.b, got)
		}
	}
}

// TestFaults: what does not parse has parser's fault and nothing else.
func TestFaults(t *testing.T) {
	deep := "package a; var x = " + strings.Repeat("(", 251) + "1" + strings.Repeat(")", 251)
	for _, text := range []string{
		"", " ", "//", "package", "package p; func f(", "package p; x", "package p # q", "\"", "/*", "package 01", "package p\nvar x = 'ab'", "package p; func f() { if {} }", "\xff", "package " + strings.Repeat("a", api.MaxName+1), deep,
		"package p" + strings.Repeat(";var a T", api.MaxPieces), "package p; func f() { for ;; x := 1 {} }",
	} {
		_, _, want := parser.File(text)
		if want.Why == api.OK || want.File != 0 {
			t.Fatalf("%.60q: %v", text, want)
		}
		if s, f := format.Format(text); s != "" || f != want {
			t.Errorf("F1: Format(%.60q) = %q, %v, not %v", text, s, f, want)
		}
		if s, f := format.Tight(text); s != "" || f != want {
			t.Errorf("F1: Tight(%.60q) = %q, %v, not %v", text, s, f, want)
		}
		if l, f := format.Edits(text); len(l) != 0 || f != want {
			t.Errorf("F1: Edits(%.60q) = %v, %v, not %v", text, l, f, want)
		}
		if format.Alike(text, text) || format.Alike(text, "package p") || format.Alike("package p", text) {
			t.Errorf("F4: Alike of %.60q", text)
		}
	}
}

func TestEdits(t *testing.T) {
	for _, c := range []struct {
		text string
		want []api.Edit
	}{
		{"package p\n", nil}, {"package p", []api.Edit{{From: 9, To: 9, Text: "\n"}}}, {"package p;", []api.Edit{{From: 9, To: 10, Text: "\n"}}}, {"\npackage\tp\n\n", []api.Edit{{From: 0, To: 1}, {From: 8, To: 9, Text: " "}, {From: 10, To: 12, Text: "\n"}}},
		{"package p // a \t\r\nvar x T\n", []api.Edit{{From: 14, To: 18, Text: "\n"}}}, {"package p // a \t", []api.Edit{{From: 14, To: 16, Text: "\n"}}}, {"//a \npackage p\n", []api.Edit{{From: 3, To: 5, Text: "\n"}}},
		{"package p;var x T\n", []api.Edit{{From: 9, To: 10, Text: "\n"}}}, {"package p /*a*/ ; /*b*/ var x T\n", []api.Edit{{From: 15, To: 18, Text: " "}, {From: 23, To: 24, Text: "\n"}}},
		{"package p\nfunc f() {\n\tswitch a\n\t{}\n}\n", []api.Edit{{From: 30, To: 32, Text: "; "}}}, {"package p\nfunc f() {\n\tfor a := b\n ; {}\n}\n", []api.Edit{{From: 32, To: 34, Text: ";"}}},
		{"package p\nvar x = f( a,b )\n", []api.Edit{{From: 20, To: 21}, {From: 23, To: 23, Text: " "}, {From: 24, To: 25}}},
	} {
		if l, f := format.Edits(c.text); !slices.Equal(l, c.want) || f != (api.Fault{}) {
			t.Errorf("F5: Edits(%q) = %v, %v, not %v", c.text, l, f, c.want)
		}
	}
}
