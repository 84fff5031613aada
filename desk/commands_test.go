package desk_test

import (
	"slices"
	"strings"
	"testing"

	"moniker/api"
	"moniker/desk"
)

// forms are the lines of the chapter's table, word by word, each of which can be done on a desk with the file of the examples.
var forms = [][]string{
	{"files"}, {"show", `"a"`}, {"put", `"b"`, `"package main"`}, {"drop", `"a"`}, {"edit", `"a"`, "0", "7", `"pack"`}, {"format", `"a"`},
	{"check"}, {"run", "1000"}, {"outline", `"a"`}, {"find", `"a"`, ":", "1", ":", "22"}, {"class", `"a"`, ":", "1", ":", "22"}, {"fresh"},
	{"rename", `"a"`, ":", "1", ":", "22", "y"}, {"explain", `"a"`, ":", "1", ":", "22", "y"}, {"undo"}, {"redo"},
}

// ready is a desk on which each of the forms can be done.
func ready() *desk.Desk {
	d := deskOf("a: " + small)
	for _, line := range []string{`put "z/z" "package z"`, `put "z/z" "package z "`, "undo"} {
		d.Do(line)
	}
	return d
}

// others are words, by their sort: text, number, name, colon, and what stands in no line.
var others = []string{`"a"`, "`b`", "1", "0x1", "x", "_", "main", ":", "if", ";", "'a'", ":=", "-", "...", "(", "func", ","}

func sortOf(word string) string {
	switch {
	case word[0] == '"' || word[0] == '`':
		return "text"
	case word[0] >= '0' && word[0] <= '9':
		return "number"
	case word == ":" || slices.Contains(others, word) && word != "x" && word != "_" && word != "main":
		return word
	}
	return "name"
}

// TestForms: each command with the words that it has, and with all that lie near: one too few, one too many, one of another sort.
func TestForms(t *testing.T) {
	for _, form := range forms {
		if told, e := ready().Do(strings.Join(form, " ")); e != api.OK {
			t.Errorf("19.2: %q: %q, %d", form, told, e)
		}
		for i := range form {
			refuses(t, ready(), strings.Join(slices.Delete(slices.Clone(form), i, i+1), " "), wanted(form, i))
			for _, word := range others {
				refuses(t, ready(), strings.Join(slices.Insert(slices.Clone(form), i, word), " "), api.ErrCommand)
				if i == 0 || sortOf(word) != sortOf(form[i]) {
					changed := slices.Clone(form)
					changed[i] = word
					refuses(t, ready(), strings.Join(changed, " "), api.ErrCommand)
				}
			}
		}
		for _, word := range others {
			refuses(t, ready(), strings.Join(form, " ")+" "+word, api.ErrCommand)
		}
	}
}

// wanted is what a line with a word less is: one without any word is done, all others are no command.
func wanted(form []string, i int) api.Errno {
	if len(form) == 1 && i == 0 {
		return api.OK
	}
	return api.ErrCommand
}

// TestBetween: blanks and comments between the words are nothing, line feeds in them too.
func TestBetween(t *testing.T) {
	for _, form := range forms {
		want := ready()
		told, _ := want.Do(strings.Join(form, " "))
		for _, gap := range []string{"  ", "\t", "\r", "\n", "/**/", " /* x \n y */ ", " // x\n", "\n\n// show \"a\"\n"} {
			d := ready()
			tells(t, d, gap+strings.Join(form, gap)+gap, told)
			if !slices.Equal(d.Files(), want.Files()) {
				t.Errorf("19.2: %q with %q between", form, gap)
			}
		}
		if form[0] == "find" {
			tells(t, ready(), `find"a":1:22`, told)
			tells(t, ready(), `find"a" :1: 22// x`, told)
		}
	}
}

// TestNoCommand: lines that are none.
func TestNoCommand(t *testing.T) {
	for _, line := range []string{
		"zz", "Files", "FILES", "file", "filess", "files;", "files files", `"files"`, "1", ":", "if", "show", "ſhow \"a\"", "ﬁles", "check 1", "check \"a\"", "undo 2", "redo undo",
		`show "a" // x` + "\n;", `show "a";`, `show 'a'`, `show a`, `show "a" "a"`, `"a":1:1`, `find "a" 1 1`, `find "a":1`, `find "a"::1:1`, `find "a":1:1:1`, `find "a":-1:1`, `find "a":1:+1`,
		`find a:1:1`, `rename "a":1:22 y z`, `rename "a":1:22 "y"`, `rename "a":1:22 func`, `rename "a":1:22 y.z`, `rename y "a":1:22`, `run -1`, "run 1.5", "run x", "run \"1\"", "run '1'",
		`edit "a" 1 "x"`, `edit "a" "x" 1 2`, `edit "a" -1 2 "x"`, `put "a" b`, `put "a"`, `put "a" "b" "c"`, "files # x", "#", "files \x00", "\xff", "é", `show "`, "show `", "/*", "files /*", "'", "'ab'", `show "\q"`,
		"run 1x", "run 00", "run 1_", "run 0x", `show "` + "\n" + `"`, "show \"\xff\"", strings.Repeat("n", api.MaxName+1), "files " + strings.Repeat("n", api.MaxName+1), "rename \"a\":1:22 " + strings.Repeat("n", api.MaxName+1),
	} {
		refuses(t, ready(), line, api.ErrCommand)
		refuses(t, desk.New(nil), line, api.ErrCommand) // a file that is not there comes behind it
	}
}

// TestIdle: lines without a token.
func TestIdle(t *testing.T) {
	for _, line := range []string{"", " ", "\t\r\n", "//", "// x", "/**/", " /* a */ // \xff", "\n\n", "// \"", "/* \x00 ` */", strings.Repeat(" ", api.MaxDesk), "//" + strings.Repeat("x", api.MaxDesk-2)} {
		d := ready()
		tells(t, d, line, "")
		tells(t, d, "redo", "")
		tells(t, d, "undo", "")
		tells(t, d, "undo", "")
		refuses(t, d, "undo", api.ErrEmpty)
	}
}

// TestNumbers: numbers of all spellings, those without a value, and the greatest.
func TestNumbers(t *testing.T) {
	d := ready()
	for _, n := range []string{"22", "0x16", "0X1_6", "0b10110", "0o26", "2_2"} {
		tells(t, d, `find "a":1:`+n, lines(`"a":1:22`, `"a":1:42`))
		tells(t, d, `find "a":0x1:`+n, lines(`"a":1:22`, `"a":1:42`))
	}
	for _, n := range []string{"9223372036854775808", "99999999999999999999", "0x8000000000000000", "0xffff_ffff_ffff_ffff_ffff", "0b1" + strings.Repeat("0", 63)} {
		for _, line := range []string{"run N", `find "a":N:1`, `find "a":1:N`, `find "none":1:N`, `class "a":1:N`, `rename "a":N:1 x`, `explain "a":1:N x`, `edit "a" N 1 ""`, `edit "a" 1 N ""`, `edit "none" N N ""`} {
			refuses(t, d, strings.ReplaceAll(line, "N", n), api.ErrCommand)
		}
	}
	most := "9223372036854775807"
	for _, line := range []string{`find "a":N:1`, `find "a":1:N`, `class "a":N:N`, `rename "a":N:1 x`, `explain "a":1:N x`} {
		refuses(t, d, strings.ReplaceAll(line, "N", most), api.ErrArg)
		refuses(t, d, strings.ReplaceAll(line, "N", "0"), api.ErrArg)
	}
	refuses(t, d, `edit "a" 0 `+most+` ""`, api.ErrSpan)
	refuses(t, d, `edit "a" `+most+` `+most+` ""`, api.ErrSpan)
	refuses(t, d, `edit "a" `+most+` 0 ""`, api.ErrSpan)
	tells(t, d, "run "+most, lines("1", "done 4611686018427387897")) // fuel stops at 2^62
	tells(t, d, "run 0", lines("fuel 0 "+at("a", small, "print", 0)))
}

// TestLong: a line of MaxDesk bytes is done, one of a byte more is not, whatever stands in it.
func TestLong(t *testing.T) {
	fill := func(front, back string, size int) string {
		return front + strings.Repeat("x", size-len(front)-len(back)) + back
	}
	for _, c := range [][2]string{{`put "a" "`, `"`}, {"files //", ""}, {"check/*", "*/"}, {"", ""}, {`"`, ""}, {"#", ""}} {
		d := ready()
		if _, e := d.Do(fill(c[0], c[1], api.MaxDesk)); e == api.ErrLong {
			t.Errorf("19.2: %q: too long", c[0])
		}
		refuses(t, d, fill(c[0], c[1], api.MaxDesk+1), api.ErrLong)
		refuses(t, d, fill(c[0], c[1], 1<<20), api.ErrLong)
	}
	d := ready()
	tells(t, d, fill(`put "a" "`, `"`, api.MaxDesk), "")
	tells(t, d, `show "a"`, strings.Repeat("x", api.MaxDesk-10))
	refuses(t, d, strings.Repeat(" ", api.MaxDesk+1), api.ErrLong)
	tells(t, d, "files"+strings.Repeat(" ", api.MaxDesk-5), lines(`"a" 65526`, `"z/z" 9`))
}

// TestFirst: of two things that stand against a line the first is told.
func TestFirst(t *testing.T) {
	d := deskOf("a: #", "b: ")
	refuses(t, d, strings.Repeat("#", api.MaxDesk+1), api.ErrLong)
	refuses(t, d, `find "none":1`, api.ErrCommand)
	refuses(t, d, `find "none":1:99999999999999999999`, api.ErrCommand)
	refuses(t, d, `edit "none" 5 4 ""`, api.ErrArg)
	refuses(t, d, `find "a":1:2`, api.ErrArg) // ahead of the file's fault
	refuses(t, d, `class "b":1:1`, api.ErrArg)
	refuses(t, d, `outline "c"`, api.ErrArg)
	refuses(t, d, `rename "a":1:2 _`, api.ErrArg)
	refuses(t, d, `rename "a":1:1 _`, api.ErrNewName) // ahead of it too
	refuses(t, d, `rename "a":1:1 x`, api.ErrByte)
	refuses(t, d, `format "a"`, api.ErrByte)
	refuses(t, d, `format "b"`, api.ErrParse)
	tells(t, d, `find "a":1:1`, "errno 20 \"a\":1:1\n") // a fault is told, no ErrNowhere
	tells(t, d, `class "a":1:1`, "errno 20 \"a\":1:1\n")
	tells(t, d, `explain "a":1:1 _`, "errno 171\n")
	tells(t, d, `explain "a":1:1 x`, "errno 20\n") // the file can't be cut into pieces
}
