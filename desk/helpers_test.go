package desk_test

import (
	"fmt"
	"math/rand/v2"
	"slices"
	"strings"
	"testing"

	"moniker/api"
	"moniker/desk"
)

// small is the file of the chapter's examples.
const small = "package main; func f(x int) int { return x }; func main() { print(f(1)) }"

func chance(seed uint64) *rand.Rand { return rand.New(rand.NewPCG(seed, 19)) }

func pick[T any](r *rand.Rand, l ...T) T { return l[r.IntN(len(l))] }

// files are written one a text: the name, ": ", the file's text.
func files(all ...string) []api.File {
	var out []api.File
	for _, s := range all {
		name, text, _ := strings.Cut(s, ": ")
		out = append(out, api.File{Name: name, Text: text})
	}
	return out
}

func deskOf(all ...string) *desk.Desk { return desk.New(files(all...)) }

// lines are lines, each ended by a line feed.
func lines(l ...string) string { return strings.Join(append(l, ""), "\n") }

// tells holds a line to what it tells.
func tells(t *testing.T, d *desk.Desk, line, want string) {
	t.Helper()
	if told, e := d.Do(line); told != want || e != api.OK {
		t.Errorf("19.2: %.300q tells %.500q, %d, not %.500q", line, told, e, want)
	}
}

// refuses holds a line to an error, and the desk to what it was.
func refuses(t *testing.T, d *desk.Desk, line string, want api.Errno) {
	t.Helper()
	before := d.Files()
	if told, e := d.Do(line); told != "" || e != want {
		t.Errorf("19.2: %.300q: %.500q, %d, not %d", line, told, e, want)
	}
	if !slices.Equal(d.Files(), before) {
		t.Errorf("19.2: %.300q changed the files", line)
	}
}

// holds holds a desk to its files.
func holds(t *testing.T, d *desk.Desk, want ...string) {
	t.Helper()
	if got := d.Files(); !slices.Equal(got, files(want...)) {
		t.Errorf("19.1: %.500q, not %.500q", got, want)
	}
}

// begins holds a line to how what it tells begins.
func begins(t *testing.T, d *desk.Desk, line, front string) {
	t.Helper()
	if told, e := d.Do(line); !strings.HasPrefix(told, front) || e != api.OK {
		t.Errorf("19.2: %.300q tells %.500q, %d, not %.500q..", line, told, e, front)
	}
}

// depth is how often a line can be done until it is refused by ErrEmpty.
func depth(t *testing.T, d *desk.Desk, line string) int {
	t.Helper()
	for n := 0; ; n++ {
		switch told, e := d.Do(line); {
		case told != "" || e != api.OK && e != api.ErrEmpty:
			t.Fatalf("19.2: %s: %q, %d", line, told, e)
		case e == api.ErrEmpty:
			return n
		}
	}
}

// at writes a PLACE: that of the n-th time, from 0 on, that a word stands in a text.
func at(name, text, word string, n int) string {
	from := 0
	for ; n > 0; n-- {
		from += strings.Index(text[from:], word) + len(word)
	}
	return wordPlace(name, text, from+strings.Index(text[from:], word))
}

// wordPlace writes a place by counting from the text's first byte on.
func wordPlace(name, text string, offset int) string {
	line, column := 1, 1
	for i := range offset {
		column++
		if text[i] == '\n' {
			line, column = line+1, 1
		}
	}
	return fmt.Sprintf("%s:%d:%d", quote(name), line, column)
}

// quote is a text's token by the words of 2.9.
func quote(s string) string {
	var out strings.Builder
	out.WriteByte('"')
	for len(s) > 0 {
		r := []rune(s)[0]
		size := len(string(r))
		switch i := strings.IndexByte("\a\b\t\n\v\f\r", s[0]); {
		case i >= 0:
			out.WriteString("\\" + "abtnvfr"[i:i+1])
		case s[0] == '"' || s[0] == '\\':
			out.WriteString("\\" + s[:1])
		case s[0] >= 32 && s[0] < 127:
			out.WriteByte(s[0])
		case s[0] < 128 || !strings.HasPrefix(s, string(r)):
			fmt.Fprintf(&out, "\\x%02x", s[0])
			size = 1
		default:
			out.WriteString(s[:size])
		}
		s = s[max(1, min(size, len(s))):]
	}
	return out.String() + `"`
}
