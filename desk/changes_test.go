package desk_test

import (
	"fmt"
	"slices"
	"strings"
	"testing"

	"moniker/api"
	"moniker/desk"
	"moniker/format"
	"moniker/rename"
)

// TestPut: a file gets another text where it stands, or comes behind the others.
func TestPut(t *testing.T) {
	d := deskOf("a: 1", "b: 2", "a: 3")
	tells(t, d, `put "a" "x"`, "")
	holds(t, d, "a: x", "b: 2", "a: 3")
	tells(t, d, `put "c" ""`, "")
	holds(t, d, "a: x", "b: 2", "a: 3", "c: ")
	tells(t, d, "put `b` `y\r\n\"`", "")
	holds(t, d, "a: x", "b: y\n\"", "a: 3", "c: ")
	tells(t, d, `put "\xff\x00" "\xfe\n\u00e9\""`, "")
	holds(t, d, "a: x", "b: y\n\"", "a: 3", "c: ", "\xff\x00: \xfe\né\"")
	tells(t, d, "files", lines(`"a" 1`, `"b" 3`, `"a" 1`, `"c" 0`, `"\xff\x00" 5`))
	tells(t, d, `put "" "z"`, "")
	tells(t, d, `show ""`, "z")
	d = desk.New(nil)
	tells(t, d, `put "a" "`+strings.ReplaceAll(small, `"`, `\"`)+`"`, "")
	tells(t, d, "check", "ok\n")
	for i := range api.MaxFiles {
		tells(t, d, fmt.Sprintf(`put "x/%d" "package x"`, i), "")
	}
	tells(t, d, "check", `errno 2 "x/63":1:1`+"\n")
	tells(t, d, `drop "x/5"`, "")
	tells(t, d, "check", "ok\n")
}

func TestDrop(t *testing.T) {
	d := deskOf("a: 1", "b: 2", "a: 3", "c: 4")
	tells(t, d, `drop "a"`, "")
	holds(t, d, "b: 2", "a: 3", "c: 4")
	tells(t, d, `drop "a"`, "")
	holds(t, d, "b: 2", "c: 4")
	refuses(t, d, `drop "a"`, api.ErrArg)
	tells(t, d, `drop "c"`, "")
	tells(t, d, `drop "b"`, "")
	holds(t, d)
	refuses(t, d, `drop "b"`, api.ErrArg)
	tells(t, d, "check", "errno 1\n")
	if n := depth(t, d, "undo"); n != 4 {
		t.Errorf("19.3: %d", n)
	}
	holds(t, d, "a: 1", "b: 2", "a: 3", "c: 4")
}

func TestEdit(t *testing.T) {
	d := deskOf("a: abc", "a: abc", "e: ")
	for _, c := range []struct {
		line, want string
		why        api.Errno
	}{
		{`edit "a" 0 0 "x"`, "xabc", 0}, {`edit "a" 3 3 "x"`, "abcx", 0}, {`edit "a" 0 3 ""`, "", 0}, {`edit "a" 1 2 "\xff\n"`, "a\xff\nc", 0}, {`edit "a" 1 2 "b"`, "abc", 0}, {`edit "a" 0x1 0b11 "z"`, "az", 0},
		{`edit "a" 3 4 ""`, "", api.ErrSpan}, {`edit "a" 4 4 ""`, "", api.ErrSpan}, {`edit "a" 2 1 ""`, "", api.ErrSpan}, {`edit "b" 0 0 ""`, "", api.ErrArg}, {`edit "e" 0 1 ""`, "", api.ErrSpan},
	} {
		if c.why != api.OK {
			refuses(t, d, c.line, c.why)
			continue
		}
		tells(t, d, c.line, "")
		holds(t, d, "a: "+c.want, "a: abc", "e: ")
		tells(t, d, "undo", "")
		holds(t, d, "a: abc", "a: abc", "e: ")
	}
	tells(t, d, `edit "e" 0 0 "é"`, "")
	holds(t, d, "a: abc", "a: abc", "e: é")
	tells(t, d, `edit "e" 1 1 "x"`, "") // within a rune
	holds(t, d, "a: abc", "a: abc", "e: \xc3x\xa9")
}

func TestFormat(t *testing.T) {
	d := deskOf("a: "+small, "b: package main;var v=1//c ", "w: package main; var #", "p: package main; var")
	for _, name := range []string{"a", "b"} {
		old := d.Files()
		tells(t, d, "format "+quote(name), "")
		want := slices.Clone(old)
		for i := range want {
			if want[i].Name == name {
				want[i].Text, _ = format.Format(want[i].Text)
			}
		}
		if !slices.Equal(d.Files(), want) || slices.Equal(old, want) {
			t.Errorf("19.2: format %s: %q", name, d.Files())
		}
	}
	tells(t, d, `show "b"`, "package main\nvar v = 1 //c\n")
	refuses(t, d, `format "w"`, api.ErrByte)
	refuses(t, d, `format "p"`, api.ErrParse)
	refuses(t, d, `format "c"`, api.ErrArg)
	tells(t, d, `format "b"`, "") // it is so already: a change all the same
	if n := depth(t, d, "undo"); n != 3 {
		t.Errorf("19.3: %d", n)
	}
}

// TestRename: what is renamed is rename.Apply of Rename's changes; renamed back it is what undo puts there.
func TestRename(t *testing.T) {
	text := "package main\nimport \"x\"\nfunc main() {\n\tvar é x.T\n\té.a = 2\n\tprint(é.a)\n}\n"
	given := files("m: "+text, "x/t: package x; type T struct { a int }")
	d := desk.New(given)
	for _, c := range []struct {
		place, name string
		file        int
		offset      int
		count       string
	}{
		{at("m", text, "a = 2", 0), "field", 0, strings.Index(text, "a = 2"), "3"},
		{at("m", text, "é x.T", 0), "v", 0, strings.Index(text, "é x.T"), "3"},
		{at("x/t", given[1].Text, "T struct", 0), "Point", 1, 16, "2"},
		{at("m", text, "T\n", 0), "T", 0, strings.Index(text, "T\n"), "2"}, // the name that it has
	} {
		l, e := rename.Rename(given, c.file, c.offset, c.name)
		want, _ := rename.Apply(given, l)
		if e != api.OK {
			t.Fatal(e)
		}
		tells(t, d, "rename "+c.place+" "+c.name, c.count+"\n")
		if !slices.Equal(d.Files(), want) {
			t.Errorf("19.8: %q, not %q", d.Files(), want)
		}
		back := rename.Back(l, c.file, c.offset)
		f := want[c.file]
		p := given[c.file].Text[c.offset:]
		old := p[:strings.IndexFunc(p, func(r rune) bool { return !strings.ContainsRune("aTé", r) })]
		tells(t, d, "rename "+wordPlace(f.Name, f.Text, back)+" "+old, c.count+"\n")
		if !slices.Equal(d.Files(), given) {
			t.Errorf("19.8: %q, not %q", d.Files(), given)
		}
		tells(t, d, "undo", "")
		tells(t, d, "undo", "")
		if !slices.Equal(d.Files(), given) {
			t.Errorf("19.8: %q, not %q", d.Files(), given)
		}
	}
	refuses(t, d, `rename "m":1:1 y`, api.ErrNowhere)
	refuses(t, d, `rename "m":1:9 y`, api.ErrTarget)
	refuses(t, d, `rename "n":1:9 y`, api.ErrArg)
	d.Do(`put "n" "package main; var w = q"`)
	refuses(t, d, "rename "+at("m", text, "é x.T", 0)+" v", api.ErrUnknown)
	d.Do(`put "n" "#"`)
	refuses(t, d, "rename "+at("m", text, "é x.T", 0)+" v", api.ErrByte)
	d.Do(`drop "n"`)
	d.Do(`drop "x/t"`)
	refuses(t, d, "rename "+at("m", text, "é x.T", 0)+" v", api.ErrImport)
}

// TestLongName: a name of MaxName bytes is taken, one more is no word.
func TestLongName(t *testing.T) {
	d := deskOf("a: " + small)
	refuses(t, d, `rename "a":1:22 `+strings.Repeat("n", api.MaxName+1), api.ErrCommand)
	tells(t, d, `rename "a":1:22 `+strings.Repeat("n", api.MaxName), "2\n")
	tells(t, d, "check", "ok\n")
}

// TestTakenBack: 19.6, P18: n changes, n times undo, n times redo, at the bound too: byte by byte.
func TestTakenBack(t *testing.T) {
	for _, n := range []int{1, 2, 5, api.MaxBack - 1, api.MaxBack} {
		d := deskOf("a: " + small)
		states := [][]api.File{d.Files()}
		for i := range n {
			line := []string{
				fmt.Sprintf(`edit "a" %d %d "%d"`, i%9, i%9+1, i), fmt.Sprintf(`put "f%d" "package main"`, i%7), fmt.Sprintf(`put "g%d" "\xff%d"`, i, i), fmt.Sprintf(`drop "g%d"`, i-1),
			}[i%4]
			tells(t, d, line, "")
			states = append(states, d.Files())
		}
		for range 2 {
			for i := n; i >= 0; i-- {
				if !slices.Equal(d.Files(), states[i]) {
					t.Fatalf("19.6: %d of %d: %q, not %q", i, n, d.Files(), states[i])
				}
				if i > 0 {
					tells(t, d, "undo", "")
				}
			}
			refuses(t, d, "undo", api.ErrEmpty)
			for i := range n {
				tells(t, d, "redo", "")
				if !slices.Equal(d.Files(), states[i+1]) {
					t.Fatalf("19.6: %d of %d: %q, not %q", i+1, n, d.Files(), states[i+1])
				}
			}
			refuses(t, d, "redo", api.ErrEmpty)
		}
	}
}

// TestForgotten: with one change more than MaxBack the oldest is forgotten, and so on.
func TestForgotten(t *testing.T) {
	for _, more := range []int{1, 2, 70} {
		d := deskOf("a: 0")
		for i := range api.MaxBack + more {
			tells(t, d, fmt.Sprintf(`put "a" "%d"`, i+1), "")
		}
		if n := depth(t, d, "undo"); n != api.MaxBack {
			t.Errorf("Limits: %d changes can be taken back", n)
		}
		holds(t, d, fmt.Sprint("a: ", more))
		if n := depth(t, d, "redo"); n != api.MaxBack {
			t.Errorf("Limits: %d changes can be done again", n)
		}
		holds(t, d, fmt.Sprint("a: ", api.MaxBack+more))
		if n := depth(t, d, "undo"); n != api.MaxBack {
			t.Errorf("Limits: %d changes can be taken back", n)
		}
		tells(t, d, `put "a" "z"`, "")
		if n := depth(t, d, "undo"); n != 1 {
			t.Errorf("19.3: %d", n)
		}
	}
}

// TestBehindUndo: a change behind undo: what was taken back can't be done again; one that is refused leaves it.
func TestBehindUndo(t *testing.T) {
	d := deskOf("a: "+small, "b: package main;")
	for _, line := range []string{`put "b" "package main"`, `edit "b" 0 0 " "`, `rename "a":1:22 y`, `format "b"`} {
		d.Do(line)
	}
	for range 3 {
		tells(t, d, "undo", "")
	}
	for _, line := range []string{
		"#", "zz", "redo 1", `drop "c"`, `show "c"`, `edit "b" 9 8 ""`, `edit "b" 0 99 ""`, `rename "a":1:22 _`, `rename "a":1:1 z`, `rename "a":1:9 z`, `rename "a":9:9 z`, `format "c"`, "put", strings.Repeat(" ", api.MaxDesk+1),
		"files", "check", "run 10", "fresh", `show "a"`, `outline "a"`, `find "a":1:22`, `class "a":1:22`, `explain "a":1:22 q`, `explain "a":1:22 _`, "", "// x",
	} {
		d.Do(line)
	}
	holds(t, d, "a: "+small, "b: package main")
	if n := depth(t, d, "redo"); n != 3 {
		t.Errorf("19.3: %d", n)
	}
	for _, line := range []string{`put "b" "package main"`, `put "c" "x"`, `drop "b"`, `edit "b" 0 0 ""`, `format "b"`, `rename "a":1:22 w`, `rename "a":1:22 x`} {
		d := deskOf("a: "+small, "b: package main")
		d.Do(`put "b" "package main\n"`)
		d.Do(`put "b" "package main\n\n"`)
		tells(t, d, "undo", "")
		tells(t, d, "undo", "")
		if told, e := d.Do(line); e != api.OK {
			t.Errorf("19.3: %s: %s, %d", line, told, e)
		}
		refuses(t, d, "redo", api.ErrEmpty)
		tells(t, d, "undo", "")
		holds(t, d, "a: "+small, "b: package main")
		refuses(t, d, "undo", api.ErrEmpty)
		tells(t, d, "redo", "")
		refuses(t, d, "redo", api.ErrEmpty)
	}
}

// TestNoChange: changes that leave all files as they were can be taken back all the same.
func TestNoChange(t *testing.T) {
	text, _ := format.Format(small)
	d := deskOf("a: " + text)
	all := []string{"put \"a\" `" + text + "`", `edit "a" 3 3 ""`, `edit "a" 0 4 "pack"`, `format "a"`, "rename " + at("a", text, "x int", 0) + " x"}
	for _, line := range all {
		if told, e := d.Do(line); e != api.OK {
			t.Errorf("19.3: %s: %s, %d", line, told, e)
		}
		holds(t, d, "a: "+text)
	}
	if n := depth(t, d, "undo"); n != len(all) {
		t.Errorf("19.3: %d, not %d", n, len(all))
	}
	if n := depth(t, d, "redo"); n != len(all) {
		t.Errorf("19.3: %d, not %d", n, len(all))
	}
}

// TestSameName: of files of one name the first is meant, also behind changes that put them in another order.
func TestSameName(t *testing.T) {
	d := deskOf("a: one", "a: "+small, "b: x", "a: three")
	tells(t, d, `show "a"`, "one")
	refuses(t, d, `find "a":1:4`, api.ErrArg)
	tells(t, d, "check", `errno 70 "a":1:1`+"\n")
	tells(t, d, `explain "a":1:1 q`, `errno 70 "a":1:1`+"\n")
	tells(t, d, `edit "a" 0 3 "1"`, "")
	holds(t, d, "a: 1", "a: "+small, "b: x", "a: three")
	tells(t, d, `drop "a"`, "")
	tells(t, d, `show "a"`, small)
	tells(t, d, `drop "b"`, "")
	tells(t, d, `format "a"`, "")
	tells(t, d, "undo", "")
	tells(t, d, `drop "a"`, "")
	holds(t, d, "a: three")
	for range 4 {
		d.Do("undo")
	}
	holds(t, d, "a: one", "a: "+small, "b: x", "a: three")
}
