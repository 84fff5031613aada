package rename_test

import (
	"fmt"
	"slices"
	"strings"
	"testing"

	"moniker/api"
	"moniker/lexer"
	"moniker/rename"
)

// TestMaxPieces: Limits: with as many pieces as may be, all of one name, a rename meets no limit: not by longer names, nor by shorter ones.
func TestMaxPieces(t *testing.T) {
	head, stmt := "package main;func main(){var v int;", "print(v);"
	count := (api.MaxPieces - 19) / 5
	text := head + strings.Repeat(stmt, count) + "}"
	pieces, _ := lexer.Scan(text)
	text = head + strings.Repeat(";", api.MaxPieces-len(pieces)) + strings.Repeat(stmt, count) + "}"
	if pieces, _ = lexer.Scan(text); len(pieces) != api.MaxPieces {
		t.Fatalf("%d pieces", len(pieces))
	}
	given := files("a: " + text)
	for _, name := range []string{strings.Repeat("w", api.MaxName), "é", "v"} {
		l, e := rename.Rename(given, 0, strings.Index(text, "v int"), name)
		now, e2 := rename.Apply(given, l)
		want := strings.NewReplacer("var v", "var "+name, "(v)", "("+name+")").Replace(text)
		if e != api.OK || e2 != api.OK || len(l) != count+1 || now[0].Text != want {
			t.Fatalf("R1: %.10s: %d, %d, %d changes", name, e, e2, len(l))
		}
		back, e := rename.Rename(now, 0, rename.Back(l, 0, len(text)-4), "v")
		if was, _ := rename.Apply(now, back); e != api.OK || was[0].Text != text {
			t.Fatalf("P15: %.10s: %d", name, e)
		}
	}
	refuses(t, asked{files: given, offset: strings.Index(text, "v int"), at: api.Place{Token: slices.IndexFunc(pieces, func(p api.Token) bool { return text[p.From:p.To] == "print" })}}, "print", api.ErrBroken)
	refuses(t, asked{files: files("a: " + text + " "), offset: 8}, "c", api.ErrMany)
	if name, f := rename.Fresh(given); name != "x0" || f != (api.Fault{}) {
		t.Errorf("R5: %s, %v", name, f)
	}
}

// TestMaxFiles: Limits: as many files as may be, each with the name.
func TestMaxFiles(t *testing.T) {
	given := files("main: package main; var v = 1; func main() { }")
	for i := range api.MaxFiles - 1 {
		given = append(given, api.File{Name: fmt.Sprint("f", i), Text: fmt.Sprintf("package main; var w%d = v", i)})
	}
	l, e := rename.Rename(given, 63, len(given[63].Text)-1, "name")
	if e != api.OK || len(l) != api.MaxFiles || l[63].File != 63 {
		t.Fatalf("R1: %d, %v", e, l)
	}
	given = append(given, api.File{Name: "more", Text: "package main"})
	refuses(t, asked{files: given, file: 63, offset: 20, at: api.Place{File: 64}}, "name", api.ErrMany)
	refuses(t, asked{files: given, file: 64, offset: 8, at: api.Place{File: 64, Token: 2}}, "if", api.ErrNewName)
	refuses(t, asked{files: given, file: 65, offset: 8, at: nowhere}, "name", api.ErrArg)
}

// TestMaxDepth: Limits: nodes as deep within one another as may be; types that are nested deeper still.
func TestMaxDepth(t *testing.T) {
	for depth := 200; ; depth++ {
		text := "package main; var a = 1; var b = " + strings.Repeat("(", depth) + "a" + strings.Repeat(")", depth) + "; func main() { }"
		l, e := rename.Rename(files("a: "+text), 0, 18, "c")
		if e == api.ErrDeep && depth > 240 {
			break
		}
		if e != api.OK || len(l) != 2 {
			t.Fatalf("R1: depth %d: %d", depth, e)
		}
	}
	var deep strings.Builder
	deep.WriteString("package main\nfunc main() {\nv0 := 1\n")
	for n := range 4000 {
		fmt.Fprintf(&deep, "v%d := &v%d\n", n+1, n)
	}
	text := deep.String() + "_ = v4000\n}\n"
	l, e := rename.Rename(files("a: "+text), 0, strings.Index(text, "v0"), "w")
	if e != api.OK || len(l) != 2 {
		t.Errorf("R1: %d", e)
	}
	if l, e := rename.Rename(files("a: "+text), 0, strings.Index(text, "v2000"), "v4001"); e != api.OK || len(l) != 2 {
		t.Errorf("R1: %d", e)
	}
}

// times is a text a number of times over, with the number from 1 on in the place of each %d.
func times(count int, each string) string {
	var out strings.Builder
	for i := range count {
		out.WriteString(strings.ReplaceAll(each, "%d", fmt.Sprint(i+1)))
	}
	return out.String()
}

// TestMany: programs with as many types and interface types as may be: a rename ends soon, however many of them might satisfy one another.
func TestMany(t *testing.T) {
	for _, c := range []struct {
		text, at, name string
		why            api.Errno
		changes        int
	}{
		{times(2000, ";type I%d interface{m()};type T%d struct{};func(t T%d)m(){}"), "m()}", "o", api.OK, 4000},
		{times(2000, ";type I%d interface{m%d()};type T%d int;func(t T%d)n%d(){}") + ";type J interface{k()}", "k()}", "n7", api.ErrMeaning, 0},
		{times(1800, ";type I%d interface{m%d();k()};type T%d int;func(t T%d)n%d(){}") + ";type J interface{k(int)}", "k(int)", "n7", api.OK, 1},
		{times(8000, ";type I%d interface{}") + ";type T int;func(t T)m(){}", "m(){}", "n", api.OK, 1},
		{";type T struct{f int}" + times(4000, ";type S%d struct{T;f int}"), "f int}", "g", api.OK, 4001},
		{";type T struct{f int};type I interface{m()}" + times(4800, ";func(t T)m%d(){}"), "m()}", "o", api.OK, 1},
		{";type I interface{" + times(4000, "m%d();") + "}" + times(2500, ";type I%d interface{I;k%d()}"), "k1()", "k2", api.ErrMeaning, 0},
		{";type I interface{" + times(4000, "m%d();") + "}" + times(2500, ";type I%d interface{I;k%d()}"), "k1()", "k", api.OK, 1},
		{";type I interface{" + times(4000, "m%d();") + "}" + times(3500, ";type I%d interface{I}"), "m9()", "m", api.OK, 1},
		{";type I interface{m();" + times(700, "p%d();") + "};type J interface{m();" + times(700, "q%d();") + "}" + times(300, ";type I%d interface{I;a%d()};type J%d interface{J;b%d()}"), "m()", "n", api.OK, 1},
	} {
		text := "package main;func main(){}" + c.text
		if l, e := rename.Rename(files("a: "+text), 0, strings.Index(text, c.at), c.name); e != c.why || len(l) != c.changes {
			t.Errorf("R1: %.100s: %d, %d changes", c.text, e, len(l))
		}
	}
}
