package desk_test

import (
	"strings"
	"testing"

	"moniker/api"
	"moniker/desk"
)

// TestExamples: each row of the chapter's examples.
func TestExamples(t *testing.T) {
	fresh := func() *desk.Desk { return desk.New([]api.File{{Name: "a", Text: small}}) }
	d := fresh()
	tells(t, d, "files", "\"a\" 73\n")
	tells(t, d, `show "a"`, small)
	tells(t, d, "check", "ok\n")
	refuses(t, d, `show "b"`, api.ErrArg)
	refuses(t, d, "show a", api.ErrCommand)
	tells(t, d, "", "")
	tells(t, d, "// x", "")
	refuses(t, d, `show "`, api.ErrCommand)

	tells(t, d, "run 1000", lines("1", "done 993"))
	tells(t, d, "run 3", lines("fuel 0 "+at("a", small, "f(1)", 0)))
	refuses(t, d, "run 9999999999999999999", api.ErrCommand)

	tells(t, d, `find "a":1:22`, lines(`"a":1:22`, `"a":1:42`))
	refuses(t, d, `find "a":1:1`, api.ErrNowhere)
	for _, line := range []string{`find "a":2:1`, `find "a":1:0`, `find "a":1:74`} {
		refuses(t, d, line, api.ErrArg)
	}

	tells(t, d, `rename "a":1:22 y`, "2\n")
	y := strings.Replace(strings.Replace(small, "(x int)", "(y int)", 1), "return x", "return y", 1)
	tells(t, d, `show "a"`, y)
	tells(t, d, "undo", "")
	tells(t, d, `show "a"`, small)
	tells(t, d, "redo", "")
	tells(t, d, `show "a"`, y)
	tells(t, d, "undo", "")
	refuses(t, d, "undo", api.ErrEmpty)
	tells(t, d, `rename "a":1:22 f`, "2\n")
	tells(t, d, "undo", "")
	tells(t, d, `rename "a":1:20 y`, "2\n")
	tells(t, d, "undo", "")

	refuses(t, d, `explain "a":1:22 if`, api.ErrCommand)
	tells(t, d, `explain "a":1:20 print`, "errno 174 "+at("a", small, "print", 0)+"\n")
	tells(t, d, `explain "a":1:22 z`, "accepted\n")

	d = fresh()
	tells(t, d, `put "b" "package main; var x = y"`, "")
	tells(t, d, "check", "errno 90 \"b\":1:23\n")
	tells(t, d, `drop "b"`, "")
	tells(t, d, "check", "ok\n")
	tells(t, d, "undo", "")
	tells(t, d, `show "b"`, "package main; var x = y")

	d = fresh()
	tells(t, d, `edit "a" 0 7 "pack"`, "")
	tells(t, d, "check", "errno 30 \"a\":1:1\n")
	tells(t, d, "undo", "")
	refuses(t, d, `edit "a" 5 4 ""`, api.ErrSpan)
	tells(t, d, `format "a"`, "")
	tells(t, d, `show "a"`, "package main\nfunc f(x int) int {\n\treturn x\n}\nfunc main() {\n\tprint(f(1))\n}\n")

	told, l, e := desk.Play(nil, "files\nzz\n\nundo")
	if told != lines("> files", "> zz", "errno 190", "> undo", "errno 191") || len(l) > 0 || e != api.OK {
		t.Errorf("example 8: %q, %v, %d", told, l, e)
	}
}
