package scope_test

import (
	"fmt"
	"math"
	"slices"
	"strconv"
	"strings"
	"sync"
	"testing"
	"time"
	"unsafe"

	"moniker/api"
	"moniker/lexer"
	"moniker/modules"
	"moniker/scope"
)

// TestNil: of nil no Scopes, and ErrArg; methods of nil Scopes answer nothing (9.1, 9.7, P1, P2).
func TestNil(t *testing.T) {
	s, f := scope.Resolve(nil)
	if s != nil || f != (api.Fault{Why: api.ErrArg}) {
		t.Errorf("9.1: %v", f)
	}
	for _, at := range []api.Place{{}, {File: -1}, {File: 0, Token: 2}, {File: math.MaxInt, Token: math.MinInt}} {
		if s.Bound(at) != -1 || s.Makes(at) != -1 || len(s.Known(at)) != 0 {
			t.Errorf("9.7: %v", at)
		}
	}
	if len(s.Decls()) != 0 || s.Program() != nil {
		t.Error("9.7: nil Scopes have declarations")
	}
}

// TestNowhere: places that there are none of, and pieces that are no tokens (9.3 to 9.5, P7).
func TestNowhere(t *testing.T) {
	p, s := resolved(t, alone("import \"x\" // c\nvar a = x.F"))
	wrongs := []int{-1, math.MinInt, math.MaxInt, 1 << 20}
	for _, n := range append(wrongs, 2) {
		for _, at := range []api.Place{{File: n}, {File: n, Token: 2}, {File: n, Token: n}} {
			if s.Bound(at) != -1 || s.Makes(at) != -1 || len(s.Known(at)) != 0 {
				t.Errorf("P7: %v", at)
			}
		}
	}
	for i := range 2 {
		for _, n := range append(wrongs, len(p.Tokens(i))) {
			at := api.Place{File: i, Token: n}
			if s.Bound(at) != -1 || s.Makes(at) != -1 || len(s.Known(at)) != 0 {
				t.Errorf("P7: %v", at)
			}
		}
		for k, x := range p.Tokens(i) {
			at := api.Place{File: i, Token: k}
			if isToken := x.Kind != api.TokBlanks && x.Kind != api.TokNote; isToken != (len(s.Known(at)) > 0) {
				t.Errorf("9.5: %v: %v", at, s.Known(at))
			}
			if x.Kind != api.TokName && (s.Bound(at) != -1 || s.Makes(at) != -1) {
				t.Errorf("9.3, 9.4: %v", at)
			}
		}
	}
}

// story is all that Scopes tell.
func story(p *modules.Program, s *scope.Scopes) string {
	var out strings.Builder
	fmt.Fprint(&out, s.Decls())
	for i := range p.Files() {
		for k := range p.Tokens(i) {
			at := api.Place{File: i, Token: k}
			fmt.Fprint(&out, s.Bound(at), s.Makes(at), s.Known(at))
		}
	}
	return out.String()
}

const busy = "import \"x\"\nconst c, d = iota, 2\ntype T struct { a int; *U; x.T }\ntype U interface { m(); V }; type V interface { }\nfunc (r *T) m(a, b int) { L: for i, c := range a { if b := i; b > c { break L } else { a, z := 1, func(a int) { print(a) }; z(a) } } }\nfunc f(u U) { switch v := u.(type) { case *T: v.m(c, d); default: v, w := 1, 2; print(v, w) } }"

// TestNewMemory: what is handed out is new each time, its spare room and the bytes of its names too (9.7, P4).
func TestNewMemory(t *testing.T) {
	p, s := resolved(t, alone(busy))
	before := story(p, s)
	for i := range p.Files() {
		for k := range p.Tokens(i) {
			l := s.Known(api.Place{File: i, Token: k})
			for j := range l[:cap(l)] {
				l[:cap(l)][j] = -7
			}
		}
	}
	l := s.Decls()
	for i := range l[:cap(l)] {
		l[:cap(l)][i] = api.Decl{Name: "spoiled"}
	}
	if story(p, s) != before {
		t.Error("P4: Scopes changed with their answers")
	}
	a, b := s.Decls(), s.Decls()
	for i := range a {
		if unsafe.StringData(a[i].Name) == unsafe.StringData(b[i].Name) {
			t.Fatalf("P4: two answers share the name %s", a[i].Name)
		}
	}
}

// TestSameAnswers: Scopes tell the same whatever they were asked, by several at once; Resolve leaves the Program as it was, and Scopes keep it (9.7, P4, P5).
func TestSameAnswers(t *testing.T) {
	p, s := resolved(t, alone(busy))
	packs, trees := fmt.Sprint(p.Packs(), p.Order(), p.Files()), fmt.Sprint(p.Tree(0), p.Tokens(0))
	want := story(p, s)
	var wait sync.WaitGroup
	for range 4 {
		wait.Go(func() {
			for range 5 {
				u, _ := scope.Resolve(p)
				if story(p, s) != want || story(p, u) != want || u.Program() != p {
					t.Error("P5: another story")
				}
			}
		})
	}
	wait.Wait()
	if packs != fmt.Sprint(p.Packs(), p.Order(), p.Files()) || trees != fmt.Sprint(p.Tree(0), p.Tokens(0)) || s.Program() != p {
		t.Error("P4: the Program was changed")
	}
}

// TestAgain: the same files make the same answers, and faults, each time (P5).
func TestAgain(t *testing.T) {
	r := chance(40)
	for range 150 {
		given := someFiles(r, 100)
		p, q := loaded(t, given), loaded(t, slices.Clone(given))
		s, f := scope.Resolve(p)
		u, g := scope.Resolve(q)
		if f != g || (s == nil) != (u == nil) || s != nil && story(p, s) != story(q, u) {
			t.Fatalf("P5: %q: %v, %v", given, f, g)
		}
	}
}

// filled is a file at the limit of pieces: the one part again and again between the others, with a number of its own in the place of each #.
func filled(t *testing.T, before, one, after string) *modules.Program {
	t.Helper()
	count := func(s string) int {
		l, _ := lexer.Scan(s)
		return len(l)
	}
	var text strings.Builder
	text.WriteString("package main;" + before)
	for i := range (api.MaxPieces - count("package main;"+before+after)) / count(strings.ReplaceAll(one, "#", "1")) {
		text.WriteString(strings.ReplaceAll(one, "#", strconv.Itoa(i)))
	}
	text.WriteString(after)
	p, f := modules.Load([]api.File{{Name: "a", Text: text.String()}})
	if f != (api.Fault{}) {
		t.Fatalf("%s %s .. %s: %v", before, one, after, f)
	}
	return p
}

// TestWork: programs at the limit of pieces, with all their names in one scope, or as deep as may be, do not take long (9.7).
func TestWork(t *testing.T) {
	const blocks = 120
	for _, c := range [][3]string{
		{"func f(){", "a#:=1;", "}"}, {"var(", "a#=1;", ")"}, {"func f(a int){", "a=1;", "}"}, {"func f(){", "a#,", "z:=1}"}, {"func f(){", "a,", "a:=1}"}, {"func f(){z:=1;", "z,", "a:=1}"}, {"func f(){", "{a:=1};", "}"}, {"func f(){", "a#:for{break a#};", "}"}, {"func f(x int){switch v:=x.(type){", "case int:v=1;", "}}"}, {"const(", "a#=iota;", ")"}, {"type t struct{", "a# int;", "}"}, {"func f(){", "for a:=range 1{};", "}"}, {"", "func init(){};", ""}, {"", "type t# struct{t#};", ""}, {"func f(){print(", "a#,", "1)}"},
		{"func f(a,b int){" + strings.Repeat("{a,b:=b,a;", blocks), "a,b=b,a;", strings.Repeat("};", blocks) + "}"}, {"const c=" + strings.Repeat("func(a int){const b=", 25), "iota,a,", "1" + strings.Repeat("}", 25)},
	} {
		p := filled(t, c[0], c[1], c[2])
		begin := time.Now()
		s, _ := scope.Resolve(p)
		s.Known(api.Place{Token: len(p.Tokens(0)) / 2})
		if took := time.Since(begin); took > 4*time.Second {
			t.Errorf("9.7: %q: %v", c, took)
		}
	}
}

// TestFiles: as many files as there may be, each with imports of its own.
func TestFiles(t *testing.T) {
	var given []api.File
	for i := range api.MaxFiles - 1 {
		given = append(given, api.File{Name: fmt.Sprint("p", i, "/a"), Text: fmt.Sprintf("package p%d; var V, v%d int", i, i)})
		if i > 0 {
			given[i].Text = fmt.Sprintf("package p%d; import \"p%d\"; var V, v%d = p%d.V, 1", i, i-1, i, i-1)
		}
	}
	given = append(given, api.File{Name: "a", Text: "package main; import q \"p62\"; var v = q.V"})
	p, s := resolved(t, given)
	compare(t, given, p, s, wordsOf(p), true)
}
