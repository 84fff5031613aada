package rename_test

import (
	"math"
	"math/rand/v2"
	"strings"
	"testing"

	"moniker/api"
	"moniker/eval"
	"moniker/format"
	"moniker/rename"
)

// someText is any text: bytes, pieces, or a program that was spoilt.
func someText(r *rand.Rand) string {
	switch r.IntN(4) {
	case 0:
		out := make([]byte, r.IntN(30))
		for i := range out {
			out[i] = byte(r.IntN(256))
		}
		return string(out)
	case 1:
		var out strings.Builder
		for range r.IntN(30) {
			out.WriteString(pick(r, "package", " ", "main", ";", "func", "a", "(", ")", "{", "}", "1", "\"a\"", "// a", "\n", ".", "*", "é", "'", "type", "var", "="))
		}
		return out.String()
	}
	text := pick(r, someFaces, someWhole)(r)[0].Text
	if r.IntN(3) == 0 {
		return text
	}
	at := r.IntN(len(text))
	return text[:at] + pick(r, "", "x", "\xff", " ", "(", "\"", "A", "1") + text[min(len(text), at+r.IntN(3)):]
}

// TestTotal: P8, P1: any files, numbers and names: the first refusal that applies, or changes.
func TestTotal(t *testing.T) {
	t.Parallel()
	r := chance(11)
	met := map[api.Errno]int{}
	for range 1500 {
		var given []api.File
		for range pick(r, 0, 1, 1, 1, 1, 1, 1, 1, 2, 3) {
			given = append(given, api.File{Name: pick(r, "a", "b", "c", "x/d", "\xff", ""), Text: someText(r)})
		}
		file, offset := 0, r.IntN(800)
		if r.IntN(6) == 0 {
			file, offset = pick(r, 1, 2, -1, math.MaxInt, math.MinInt), pick(r, 0, offset, -1, math.MaxInt, math.MinInt)
		}
		if file >= 0 && file < len(given) && len(given[file].Text) > 0 && r.IntN(6) > 0 {
			offset = r.IntN(len(given[file].Text))
		}
		name := pick(r, "A", "B", "m", "k", "Fresh", "int", "if", "", "_", "\xff", someText(r))
		_, e := asks(t, r, given, file, offset, name)
		met[e]++
		rename.Fresh(given)
	}
	for _, e := range []api.Errno{api.OK, api.ErrArg, api.ErrNewName, api.ErrNowhere, api.ErrTarget, api.ErrParse, api.ErrByte, api.ErrQuote, api.ErrUnknown, api.ErrTwice} {
		if met[e] < 3 {
			t.Errorf("few of %d: %v", e, met)
		}
	}
}

// TestTight: 0.12: where tokens stand as close as may be no edit of an identifier melts two pieces into one, and none falls apart.
func TestTight(t *testing.T) {
	t.Parallel()
	r := chance(12)
	walk(t, r, 6, 20, func(r *rand.Rand) []api.File {
		given := someFiles(r, 4)
		for i := range given {
			text, f := format.Tight(given[i].Text)
			if f != (api.Fault{}) {
				t.Fatal(f)
			}
			given[i].Text = text
		}
		return given
	})
	for _, row := range []string{
		"a: package main;func f(s string)(int){switch s{case\"a\":return+1;case`b`:return(@$a)};return-$a};const/**/$a=1;func main(){print(f(\"\"))}",
		"a: package main;func main(){@$a:=1;for/**/$a<3{$a++};print($a/**/,$a)}",
		"a: package main;func main(){var s[]int;for/**/@$b:=range/**/s{print($b)}}",
		"a: package main;func main(){$a:for{break/**/@$a}}",
		"a: package main;type/**/$T/**/interface{};type U struct{*V;@$T};type V int;func main(){}",
	} {
		accepts(t, read(row), "n")
		accepts(t, read(row), strings.Repeat("é", 99))
	}
}

// TestEveryFuel: P11: with every fuel both programs come to the same end, at the same token, with the same trace and the same fuel left.
func TestEveryFuel(t *testing.T) {
	t.Parallel()
	ends := map[api.End]int{}
	for _, c := range []struct {
		name  string
		files []string
	}{
		{"c", []string{"a: package main; func f(@a int) int { b := a; return b }; func main() { print(f(1)) }"}},
		{"f", []string{"a: package main; func f(@a int) int { b := a; return b }; func main() { print(f(1)) }"}},
		{"k", []string{"a: package main; var @a = []int{1, 2}; func main() { for i, x := range a { print(i, x, a[i]) }; print(a[5]) }"}},
		{"len", []string{"a: package main; type I interface { @m(int) int }; type T int; func (t T) m(n int) int { return int(t) / n }; func main() { var i I = T(6); for n := 3; ; n-- { print(i.m(n)) } }"}},
		{"T", []string{"a: package main; type A struct { @x int }; type B struct { *A; x string }; func main() { b := B{x: \"s\"}; print(b.x, b.A.x) }; type T int"}},
		{"main_", []string{"a: package main; import \"x\"; func main() { print(x.V, W) }; var W = x.@F(2)", "x/b: package x; var V = F(1); func F(n int) int { print(n); if n > 1 { panic(\"p\") }; return n + U }; var U = 7; func init() { U++ }"}},
		{"v", []string{"a: package main; func @f(n int) int { return f(n + 1) }; func main() { print(f(0)) }"}},
		{"z", []string{"a: package main; type E interface { }; type @S struct { f func() }; func g(e E) { switch x := e.(type) { case S: print(1); x.f(); case *S: print(2); default: print(x.(S).f == nil) } }; func main() { g(&S{}); g(S{f: func() { print(3) }}); g(4) }"}},
		{"M", []string{"a: package main; func main() { @L: for i := range 5 { for j := range 5 { if j == i { continue L }; if i + j == 6 { break L }; print(1 << (j - i)) } } }"}},
	} {
		q := read(c.files...)
		l, e := rename.Rename(q.files, q.file, q.offset, c.name)
		if e != api.OK {
			t.Errorf("R1: %q to %s: %d", q.files, c.name, e)
			continue
		}
		now, _ := rename.Apply(q.files, l)
		old, new := opened(t, q.files), opened(t, now)
		took := enough - eval.Run(old, enough).Left
		for fuel := range took + 3 {
			a, b := eval.Run(old, fuel), eval.Run(new, fuel)
			if a.End != b.End || a.At != b.At || a.Left != b.Left || eval.Show(a.Trace) != eval.Show(b.Trace) {
				t.Fatalf("P11: %q to %s with %d: %v, not %v", q.files, c.name, fuel, b, a)
			}
			if fuel >= took {
				ends[a.End]++
			}
		}
	}
	for _, end := range []api.End{api.EndDone, api.EndNil, api.EndIndex, api.EndZero, api.EndShift, api.EndPanic, api.EndAssert, api.EndDeep} {
		if ends[end] == 0 {
			t.Errorf("none ended by %d: %v", end, ends)
		}
	}
}
