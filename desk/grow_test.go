package desk_test

import (
	"fmt"
	"math/rand/v2"
	"strings"

	"moniker/api"
	"moniker/lexer"
)

// base is a program of three packages that need one another.
func base() []api.File {
	return files(
		"main: package main\nimport \"x\"\nimport \"x/y\"\nfunc main() {\n\tt := x.T{a: 4}\n\tvar i x.I = t\n\tprint(y.Do(i.M(1)), t.b)\n}\n",
		"x/t: package x; type T struct { a, b int }; func (t T) M(n int) int { return t.a + n }; type I interface { M(int) int }",
		"x/y/d: package y; var k = 3; func Do(n int) int { m := n * 2; return m + k }",
	)
}

// more is the text of one more file of a package, now and then with a fault.
func more(r *rand.Rand, pack string) string {
	g := pick(r, "g0", "g1", "g2", "g3")
	body := pick(r,
		"func %s(k int) int { l := k; return l }",
		"type %s struct { c, d int }; func (r %[1]s) M(n int) int { return r.c * n }",
		"type %s interface { M(int) int; N() string }",
		"const %s = 1 << 3; var v%[1]s = %[1]s + 1",
		"func init() { for %s := range 2 { print(%[1]s) } }",
		"func init() { var %s []int; if len(%[1]s) > 0 { panic(\"\\xff\") } }",
	)
	body = fmt.Sprintf(body, g)
	if r.IntN(15) == 0 {
		body += pick(r, " #", " func", "; var w = zz", " \"", "; func "+g+"() { var u int }")
	}
	return "package " + pack + pick(r, "; ", "\n", "; // some\n") + body
}

// order is a command by chance: its words, and what they say.
type order struct {
	word         string
	words        []string // behind the first one
	name, text   string   // of files; what is put
	numbers      [2]int
	file, offset int // file -1: there is none of that name; offset -1: that place is not there
	to           string
}

// someOrder is a command that can mostly be done on these files.
func someOrder(r *rand.Rand, now []api.File) order {
	o := order{word: pick(r, "files", "show", "put", "put", "drop", "edit", "format", "check", "check", "run", "run", "outline", "find", "find", "class", "class", "fresh", "rename", "rename", "rename", "rename", "explain", "explain", "undo", "undo", "undo", "redo", "redo"), file: -1, offset: -1}
	o.name = pick(r, "main", "x/t", "x/y/d", "x/p", "q", "none", "")
	if len(now) > 0 && r.IntN(6) > 0 {
		o.name = pick(r, now...).Name
	}
	for i := len(now) - 1; i >= 0; i-- {
		if now[i].Name == o.name {
			o.file = i
		}
	}
	switch o.word {
	case "show", "drop", "format", "outline":
		o.words = []string{spelled(r, o.name)}
	case "put":
		o.text = pick(r, more(r, "main"), more(r, "x"), more(r, "y"), "package x", "", "\x00\n\xff\"`")
		if o.file >= 0 && r.IntN(3) > 0 {
			o.text = now[o.file].Text + pick(r, "\n", " ", "// é", "\nvar q = 1", "")
		}
		o.words = []string{spelled(r, o.name), spelled(r, o.text)}
	case "edit":
		o.someEdit(r, now)
	case "run":
		o.numbers[0] = pick(r, 0, 1, 5, 20, 100, 1000)
		o.words = []string{fmt.Sprint(o.numbers[0])}
	case "find", "class":
		o.someAt(r, now)
	case "rename", "explain":
		o.someAt(r, now)
		o.to = pick(r, "a", "b", "M", "T", "Do", "g1", "x0", "fresh", "é", "n", "k", "m", "_", "main", "int")
		o.words = append(o.words, o.to)
	}
	return o
}

func (o *order) someEdit(r *rand.Rand, now []api.File) {
	o.numbers = [2]int{r.IntN(40), r.IntN(40)}
	if o.file >= 0 {
		size := len(now[o.file].Text)
		o.numbers[0] = r.IntN(size + 1)
		o.numbers[1] = o.numbers[0] + r.IntN(min(3, size-o.numbers[0]+1))
	}
	if r.IntN(20) == 0 {
		o.numbers[r.IntN(2)] = pick(r, 0, 1<<40, 1<<63-1)
	}
	o.text = pick(r, "", " ", "\n", "/**/", "x", "1", "#", "\xff")
	o.words = []string{spelled(r, o.name), fmt.Sprint(o.numbers[0]), fmt.Sprint(o.numbers[1]), spelled(r, o.text)}
}

// someAt takes a place, mostly that of an identifier.
func (o *order) someAt(r *rand.Rand, now []api.File) {
	line, column := r.IntN(4), r.IntN(80)
	if o.file >= 0 && len(now[o.file].Text) > 0 {
		text := now[o.file].Text
		o.offset = r.IntN(len(text))
		pieces, _ := lexer.Scan(text)
		for range 9 {
			if p := pick(r, append(pieces, api.Token{})...); p.Kind == api.TokName {
				o.offset = p.From
			}
		}
		lines := strings.SplitAfter(text[:o.offset], "\n")
		line, column = len(lines), len(lines[len(lines)-1])+1
	}
	if r.IntN(20) == 0 || o.offset < 0 {
		line, column = pick(r, 0, line, 1000), 1000
		o.offset = -1
	}
	o.words = []string{spelled(r, o.name), ":", fmt.Sprint(line), ":", fmt.Sprint(column)}
}

// spelled is one of the tokens whose value is a text.
func spelled(r *rand.Rand, s string) string {
	if r.IntN(3) == 0 && !strings.ContainsAny(s, "`\r\n") {
		return "`" + s + "`"
	}
	return quote(s)
}

// line is a command as it may be written, without a line feed in it.
func (o order) line(r *rand.Rand) string {
	out := o.word
	for _, w := range o.words {
		out += pick(r, " ", " ", "\t", " /* x */ ") + w
	}
	return pick(r, "", " ") + out + pick(r, "", "", " ", " // y", "\r")
}
