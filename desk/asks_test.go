package desk_test

import (
	"fmt"
	"strings"
	"testing"

	"moniker/api"
	"moniker/desk"
	"moniker/eval"
	"moniker/xref"
)

// TestShown: files, show and outline, of any bytes.
func TestShown(t *testing.T) {
	d := deskOf("a: \x00\xff`\"\\\n", "é\n\"/: ", "a: twice", ": no name")
	tells(t, d, "files", lines(`"a" 6`, `"é\n\"/" 0`, `"a" 5`, `"" 7`))
	tells(t, d, `show "a"`, "\x00\xff`\"\\\n")
	tells(t, d, `show "\x61"`, "\x00\xff`\"\\\n")
	tells(t, d, "show `a`", "\x00\xff`\"\\\n")
	tells(t, d, `show "\u00e9\n\"/"`, "")
	tells(t, d, "show `é\n\"/`", "")
	tells(t, d, `show ""`, "no name")
	tells(t, d, "show ``", "no name")
	refuses(t, d, `show "A"`, api.ErrArg)
	refuses(t, d, `show " a"`, api.ErrArg)
	tells(t, desk.New(nil), "files", "")

	text := "package main\ntype t struct {\n\ta int\n}\nfunc main() {\n\tx := t{a: 1}\n\tprint(x.a)\n}\n"
	d = deskOf("x/a: package x", "m: "+text)
	w, _ := xref.Open(d.Files())
	tells(t, d, `outline "m"`, w.Outline(1))
	tells(t, d, `outline "x/a"`, w.Outline(0))
	tells(t, d, `outline "x/a"`, "package x\n")
	refuses(t, d, `outline "y"`, api.ErrArg)
	d.Do(`put "y" "package"`)
	tells(t, d, `outline "m"`, "errno 30 \"y\":1:8\n")
}

// TestFaults: how faults are told: with a place where their file is there, also behind its last byte.
func TestFaults(t *testing.T) {
	many := make([]api.File, api.MaxFiles+1)
	for i := range many {
		many[i] = api.File{Name: fmt.Sprint("x/", i), Text: "\n\npackage x"}
	}
	for _, c := range []struct {
		files []api.File
		want  string
	}{
		{nil, "errno 1"},
		{files("a: "), `errno 30 "a":1:1`},
		{files("a: \n"), `errno 30 "a":2:1`},
		{files("a: package"), `errno 30 "a":1:8`},
		{files("a: package\n"), `errno 30 "a":2:1`},
		{files("a: package\n\n "), `errno 30 "a":3:2`},
		{files("a: package main", "b: package main\nvar x\n"), `errno 30 "b":2:6`}, // at an auto
		{files("a: package main\nfunc\n\n"), `errno 30 "a":4:1`},
		{files("a: package main\n\n#"), `errno 20 "a":3:1`},
		{files("a: package main", "\x00: \""), `errno 22 "\x00":1:1`},
		{files("a: package main", "b: package main", "a: "), `errno 70 "a":1:1`},
		{files("a: package main", "b: package other"), `errno 71 "b":1:9`},
		{files("a: package main\n\timport \"x\""), `errno 72 "a":2:9`},
		{files("x/b: package x"), `errno 74 "x/b":1:1`},
		{files("x/b: package x", "a: package main"), `errno 74 "a":1:9`},
		{files("a: package main\nfunc main() {\n\té := 1\n}\n"), `errno 94 "a":3:2`},
		{files("a: package main\nfunc main() {\n\tprint(\"é\", x)\n}\n"), `errno 90 "a":3:14`}, // bytes are counted, not runes
		{files("a: package main\r\nfunc main() { x }"), `errno 90 "a":2:15`},
		{many, `errno 2 "x/64":1:1`},
	} {
		d := desk.New(c.files)
		for _, line := range []string{"check", "run 100", "fresh"} {
			tells(t, d, line, c.want+"\n")
		}
		for i, f := range c.files {
			if f.Text != "" && i < 3 {
				tells(t, d, "find "+wordPlace(f.Name, f.Text, 0), c.want+"\n")
				tells(t, d, "class "+wordPlace(f.Name, f.Text, 0), c.want+"\n")
			}
			tells(t, d, "outline "+quote(f.Name), c.want+"\n")
		}
	}
}

// TestEnds: each of the ends' words, with the place at which a run ended.
func TestEnds(t *testing.T) {
	head := "package main\ntype n struct { a int }\ntype i interface { }\nfunc f(k int) int { return f(k) }\nfunc main() {\n\tprint(1)\n"
	for _, c := range []struct{ word, body, place string }{
		{"done", "", ""},
		{"nil", "var p *n; p.a = 2", "p.a"},
		{"index", "var s []int; s[3] = 1", "s["},
		{"zero", "k := 0; k = 1 / k", "1 /"},
		{"shift", "k := -1; k = 2 << k", "2 <<"},
		{"assert", "var e i = 1; print(e.(string))", "e.("},
		{"panic", "panic(\"x\")", "panic"},
		{"large", "s := \"xy\"; for { s = s + s }", "s + s"},
		{"deep", "f(1)", "f(k) }"},
		{"fuel", "for { }", "for {"},
	} {
		text := head + c.body + "\n}\n"
		d := deskOf("a\n: " + text)
		w, f := xref.Open(d.Files())
		if f.Why != api.OK {
			t.Fatalf("%s: %v", c.word, f)
		}
		r := eval.Run(w, 5000)
		want := fmt.Sprintf("1\n%s %d\n", c.word, r.Left)
		if c.place != "" {
			want = fmt.Sprintf("1\n%s %d %s\n", c.word, r.Left, at("a\n", text, c.place, 0))
		}
		tells(t, d, "run 5000", want)
		tells(t, d, "check", "ok\n")
	}
}

// TestTraces: what is printed comes ahead of the end's line, as eval shows it.
func TestTraces(t *testing.T) {
	d := deskOf("m: package main\nimport \"x\"\nfunc main() { print(\"a\\n\", 1 < 2, -3); print(); x.F() }", "x/f: package x\nfunc F() {\n\tprint(`b`)\n\tvar s []int\n\ts[0]++\n}")
	w, _ := xref.Open(d.Files())
	for fuel := range 30 {
		r := eval.Run(w, fuel)
		want := eval.Show(r.Trace)
		switch r.End {
		case api.EndFuel:
			want += "fuel 0 "
		case api.EndIndex:
			want += fmt.Sprintf("index %d ", r.Left)
		default:
			t.Fatal(r)
		}
		p, _ := w.Program().Token(r.At)
		f := d.Files()[r.At.File]
		tells(t, d, fmt.Sprint("run ", fuel), want+wordPlace(f.Name, f.Text, p.From)+"\n")
	}
	tells(t, d, "run 29", "\"a\\n\" true -3\n\n\"b\"\nindex 11 \"x/f\":5:2\n")
}

// TestPlaces: which bytes of a file can be asked for: each, its line feeds too, and nothing behind them.
func TestPlaces(t *testing.T) {
	for _, text := range []string{
		"", "\n", "\n\n", "x", "x\n", "\nx", "package main", "package main\n", "package main\n\nvar v = 1\n\nfunc main() {\n\tprint(v, \"é\")\n}\n", "package main\r\nfunc main() { }\r\n",
	} {
		d := desk.New([]api.File{{Name: "a", Text: text}, {Name: "b", Text: strings.Repeat("x\n", 50)}})
		spots := map[[2]int]int{} // by line and byte
		line, column := 1, 1
		for i := range len(text) {
			spots[[2]int{line, column}] = i
			column++
			if text[i] == '\n' {
				line, column = line+1, 1
			}
		}
		d.Do(`drop "b"`)
		w, f := xref.Open(d.Files())
		for line := range 10 {
			for column := range 30 {
				place := fmt.Sprintf("\"a\":%d:%d", line, column)
				offset, ok := spots[[2]int{line, column}]
				if !ok {
					for _, s := range []string{"find " + place, "class " + place, "rename " + place + " x", "explain " + place + " x"} {
						refuses(t, d, s, api.ErrArg)
					}
					continue
				}
				if f.Why != api.OK {
					tells(t, d, "find "+place, fmt.Sprintf("errno %d %s\n", f.Why, wordPlace("a", text, f.At)))
				} else if _, e := w.At(0, offset); e != api.OK {
					refuses(t, d, "find "+place, api.ErrNowhere)
					refuses(t, d, "class "+place, api.ErrNowhere)
				} else {
					begins(t, d, "find "+place, "\"a\":")
				}
			}
		}
	}
}

// TestFound: find and class tell all occurrences, by file and place, each once.
func TestFound(t *testing.T) {
	text := "package main\nimport \"x\"\n// v\ntype s struct { u; a int }\ntype u struct { b int }\nfunc main() {\n\tvar k x.I\n\tv := s{u: u{b: 1}, a: 2}\n\tprint(v.u.b, v.b, k == nil, v.a)\n}\nfunc (r u) M() { r.M() }\n"
	other := "package x; type I interface { J; M() }; type J interface { M() }; func f(i I) { i.M() }"
	d := deskOf("x/i: "+other, "m: "+text)
	places := func(list ...string) string { return lines(list...) }
	m := func(word string, n int) string { return at("m", text, word, n) }
	x := func(word string, n int) string { return at("x/i", other, word, n) }
	byte := func(place string, more int) string { // a place so many bytes behind it
		i := strings.LastIndexByte(place, ':')
		var n int
		fmt.Sscan(place[i+1:], &n)
		return fmt.Sprint(place[:i+1], n+more)
	}
	us := []string{m("u; a", 0), m("u struct", 0), m("u: u", 0), byte(m("u: u", 0), 3), m("u.b", 0), byte(m("(r u)", 0), 3)}
	embedded := []string{us[0], us[1], us[2], us[3], us[4], us[5]} // of the field and of the type at once
	for _, c := range []struct {
		place       string
		find, class []string
	}{
		{us[0], embedded, us},
		{us[1], []string{us[0], us[1], us[3], us[5]}, us}, // the type
		{us[2], []string{us[0], us[2], us[4]}, us},        // the key: the field
		{us[4], []string{us[0], us[2], us[4]}, us},        // v.u
		{m("a int", 0), []string{m("a int", 0), m("a: 2", 0), byte(m("v.a", 0), 2)}, []string{m("a int", 0), m("a: 2", 0), byte(m("v.a", 0), 2)}},
		{x("M()", 2), []string{x("M()", 0), x("M()", 1), x("M()", 2)}, []string{x("M()", 0), x("M()", 1), x("M()", 2), byte(m("u) M", 0), 3), byte(m("r.M", 0), 2)}},
		{x("M()", 0), []string{x("M()", 0), x("M()", 2)}, []string{x("M()", 0), x("M()", 1), x("M()", 2), byte(m("u) M", 0), 3), byte(m("r.M", 0), 2)}},
		{byte(m("r.M", 0), 2), []string{byte(m("u) M", 0), 3), byte(m("r.M", 0), 2)}, []string{x("M()", 0), x("M()", 1), x("M()", 2), byte(m("u) M", 0), 3), byte(m("r.M", 0), 2)}},
		{m("x.I", 0), []string{m("x.I", 0)}, nil},              // the import
		{m("int", 0), []string{m("int", 0), m("int", 1)}, nil}, // the universe's
		{m("main", 0), []string{m("main", 0)}, nil},            // the package
		{m("main()", 0), []string{m("main()", 0)}, nil},        // the function main
		{m("print", 0), []string{m("print", 0)}, nil},          // a universe function
		{x("x;", 0), []string{x("x;", 0)}, nil},                // the package x
		{byte(m("k x.I", 0), 4), []string{x("I interface", 0), x("I)", 0), byte(m("k x.I", 0), 4)}, []string{x("I interface", 0), x("I)", 0), byte(m("k x.I", 0), 4)}},
	} {
		tells(t, d, "find "+c.place, places(c.find...))
		if c.class == nil {
			refuses(t, d, "class "+c.place, api.ErrTarget)
		} else {
			tells(t, d, "class "+c.place, places(c.class...))
		}
	}
	refuses(t, d, "find "+m("// v", 0), api.ErrNowhere)
	refuses(t, d, "class "+m("func", 0), api.ErrNowhere)
	refuses(t, d, "find "+m("1}", 0), api.ErrNowhere)
}

// TestFresh: the first name that is not taken, in a comment or a text it is not.
func TestFresh(t *testing.T) {
	tells(t, deskOf("a: package main; func main() { }"), "fresh", "x0\n")
	tells(t, deskOf("a: package main; func main() { x0, x1 := 1, 2; print(x0, x1, \"x2\") } // x2"), "fresh", "x2\n")
	tells(t, deskOf("a: package main; func main() { x1 := 1; print(x1) }"), "fresh", "x0\n")
}

// TestExplained: each refusal, and where it is seen; Rename tells the same error.
func TestExplained(t *testing.T) {
	head := "package main\ntype t struct { a int }\nfunc (r t) m() int { return r.a }\ntype i interface { n() int }\nfunc f(a int) int { b := a; return b }\n/* c */ func main() {\n\tprint(f(1))\n\tprint(t{}.m())\n}\n"
	d := deskOf("x/y: package y", "m: "+head)
	m := func(word string, n int) string { return at("m", head, word, n) }
	for _, c := range []struct {
		place, name, want string
	}{
		{m("a int)", 0), "zz", "accepted"},
		{m("a int)", 0), "a", "accepted"},
		{m("a int)", 0), "_", "errno 171 " + m("a int)", 0)},
		{m("a int)", 0), "main", "errno 171 " + m("a int)", 0)},
		{m("a int)", 0), "init", "errno 171 " + m("a int)", 0)},
		{m("package", 0), "zz", "errno 170 " + m("package", 0)},
		{m("ackage", 0), "zz", "errno 170 " + m("package", 0)},
		{m(" c ", 0), "zz", "errno 170 " + m("/* c", 0)},
		{m("print(f", 0), "zz", "errno 172 " + m("print(f", 0)},
		{m("in() {", 0), "zz", "errno 172 " + m("main() {", 0)},
		{m("a int)", 0), "b", "errno 173 " + m("b := a", 0)},
		{m("f(a", 0), "t", "errno 173 " + m("f(a", 0)},
		{m("f(a", 0), "print", "errno 174 " + m("print(f", 0)},
		{m("m() int", 0), "n", "errno 175"},
	} {
		tells(t, d, "explain "+c.place+" "+c.name, c.want+"\n")
		var why int
		if fmt.Sscanf(c.want, "errno %d", &why); why != 0 {
			refuses(t, d, "rename "+c.place+" "+c.name, api.Errno(why))
		}
	}
	hidden := "package main\ntype u struct { a int }\ntype v struct { u; b int }\nfunc main() { print(v{}.b, u{}.a) }\n"
	d = deskOf("m: " + hidden)
	place := at("m", hidden, "a int", 0)
	tells(t, d, "explain "+place+" b", "errno 176 "+place+"\n")
	refuses(t, d, "rename "+place+" b", api.ErrClass)

	d = deskOf("a: "+small, "b: package main\nvar x = y", "c: #")
	tells(t, d, `explain "a":1:22 zz`, "errno 20\n") // c can't be cut
	tells(t, d, `explain "a":1:22 _`, `errno 171 "a":1:22`+"\n")
	tells(t, d, `explain "c":1:1 _`, "errno 171\n")
	d.Do(`drop "c"`)
	tells(t, d, `explain "a":1:22 zz`, `errno 90 "b":2:9`+"\n")
	tells(t, d, `explain "b":1:8 zz`, `errno 90 "b":2:9`+"\n")
	d.Do(`put "b" "package"`)
	tells(t, d, `explain "a":1:22 zz`, "errno 30\n") // behind the last byte
}
