package desk_test

import (
	"fmt"
	"slices"
	"strings"
	"testing"

	"moniker/api"
	"moniker/desk"
)

// plays holds Play to what it tells, and to the files in the end.
func plays(t *testing.T, given []api.File, text, want string, end ...string) {
	t.Helper()
	told, l, e := desk.Play(given, text)
	if told != want || !slices.Equal(l, files(end...)) || e != api.OK {
		t.Errorf("19.4: %.200q: %.500q, %.500q, %d, not %.500q", text, told, l, e, want)
	}
}

func TestPlay(t *testing.T) {
	given := files("a: "+small, "b: x", "c: ", "d: \n")
	same := []string{"a: " + small, "b: x", "c: ", "d: \n"}
	plays(t, nil, "", "")
	plays(t, given, "", "", same...)
	plays(t, given, "\n", "", same...)
	plays(t, given, "\n\n // x\n\t\r\n/* files */\n", "", same...)
	plays(t, given, "files", "> files\n\"a\" 73\n\"b\" 1\n\"c\" 0\n\"d\" 1\n", same...)
	plays(t, given, `show "b"`, "> show \"b\"\nx\n", same...)         // one line feed more
	plays(t, given, `show "c"`, "> show \"c\"\n", same...)            // nothing is told
	plays(t, given, `show "d"`, "> show \"d\"\n\n", same...)          // it ends in one
	plays(t, given, "show \"b\"\r\n", "> show \"b\"\r\nx\n", same...) // the line as it stands
	plays(t, given, "\t show/**/\"b\" // y\n\n", "> \t show/**/\"b\" // y\nx\n", same...)
	plays(t, given, "#\nshow \"\nshow\n\"\n", "> #\nerrno 190\n> show \"\nerrno 190\n> show\nerrno 190\n> \"\nerrno 190\n", same...)
	plays(t, given, "/*\nfiles */\nundo", "> /*\nerrno 190\n> files */\nerrno 190\n> undo\nerrno 191\n", same...) // lines are cut, whatever stands in them
	plays(t, given, "show `b\n`", "> show `b\nerrno 190\n> `\nerrno 190\n", same...)
	plays(t, given, "show \"z\"\nedit \"b\" 1 0 \"\"\n\x00", "> show \"z\"\nerrno 1\n> edit \"b\" 1 0 \"\"\nerrno 10\n> \x00\nerrno 190\n", same...)
	plays(t, given, "check", "> check\nerrno 30 \"b\":1:1\n", same...)
	plays(t, files("a: "+small), "rename \"a\":1:20 g\ncheck\nundo\nredo\nput \"b\" \"\"\nundo\nrun 100\nredo", "> rename \"a\":1:20 g\n2\n> check\nok\n> undo\n> redo\n> put \"b\" \"\"\n> undo\n> run 100\n1\ndone 93\n> redo\n", "a: "+strings.ReplaceAll(small, "f(", "g("), "b: ")
}

// TestPlayLong: a text of MaxDesk bytes is done, of one more nothing is.
func TestPlayLong(t *testing.T) {
	given := files("a: " + small)
	for _, c := range []string{"\n", " ", "undo\n", "#", "//x\n", "put \"b\" \"\"\n"} {
		text := strings.Repeat(c, api.MaxDesk/len(c)+1)
		told, l, e := desk.Play(given, text[:api.MaxDesk])
		if e != api.OK || len(l) < 1 || l[0] != given[0] || (told == "") != strings.Contains("\n //x\n", c) {
			t.Errorf("19.4: %q: %.100q, %d files, %d", c, told, len(l), e)
		}
		told, l, e = desk.Play(given, (text + " ")[:api.MaxDesk+1])
		if told != "" || len(l) > 0 || e != api.ErrLong {
			t.Errorf("19.4: %q: %.100q, %d files, %d", c, told, len(l), e)
		}
	}
	if told, l, e := desk.Play(nil, strings.Repeat("x", 1<<21)); told != "" || len(l) > 0 || e != api.ErrLong {
		t.Errorf("19.4: %.100q, %v, %d", told, l, e)
	}
	// One line of MaxDesk bytes.
	line := `put "a" "` + strings.Repeat("y", api.MaxDesk-10) + `"`
	plays(t, given, line, "> "+line+"\n", "a: "+strings.Repeat("y", api.MaxDesk-10))
}

// playOf is Play by the words of 19.4: Do of each line.
func playOf(given []api.File, text string) (string, []api.File) {
	d := desk.New(given)
	out := ""
	for {
		line, rest, more := strings.Cut(text, "\n")
		told, e := d.Do(line)
		if bare, _, _ := strings.Cut(line, "//"); strings.Trim(bare, " \t\r") != "" {
			out += "> " + line + "\n"
			switch {
			case e != api.OK:
				out += fmt.Sprintf("errno %d\n", e)
			case told != "" && told[len(told)-1] != '\n':
				out += told + "\n"
			default:
				out += told
			}
		}
		if !more {
			return out, d.Files()
		}
		text = rest
	}
}
