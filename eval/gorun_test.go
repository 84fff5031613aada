package eval_test

import (
	"fmt"
	"os"
	"os/exec"
	"path/filepath"
	"strings"
	"testing"

	"moniker/api"
	"moniker/eval"
	"moniker/xref"
)

// goHead is what a Go program has for MiniGo's print, and for how a run ends.
const goHead = `package main

import (
	"fmt"
	"os"
	"reflect"
	"strconv"
	"strings"
)

func print(all ...any) {
	for i, x := range all {
		if i > 0 {
			out.WriteByte(' ')
		}
		if v := reflect.ValueOf(x); v.Kind() == reflect.String {
			out.WriteString(strconv.Quote(v.String()))
		} else {
			fmt.Fprint(&out, x)
		}
	}
	out.WriteByte('\n')
}

var out strings.Builder

func run(f func()) {
	defer func() {
		end := "done"
		if e := recover(); e != nil {
			end = fmt.Sprint(e)
		}
		fmt.Fprintf(&out, "end %s\n", end)
	}()
	f()
}

func main() {
	for _, f := range all {
		run(f)
	}
	os.Stdout.WriteString(out.String())
}
`

// endOf is how a run ended of which Go tells this.
func endOf(line string) api.End {
	for _, e := range []struct {
		word string
		end  api.End
	}{
		{"done", api.EndDone}, {"nil pointer", api.EndNil}, {"called using nil", api.EndNil}, {"nil map", api.EndNil}, {"index out of range", api.EndIndex}, {"slice bounds out of range", api.EndIndex},
		{"divide by zero", api.EndZero}, {"negative shift", api.EndShift}, {"interface conversion", api.EndAssert}, {"stop", api.EndPanic},
	} {
		if strings.Contains(line, e.word) {
			return e.end
		}
	}
	return api.EndFuel
}

// TestGo: 14.8, 14.9: programs by chance do what Go does with them.
func TestGo(t *testing.T) {
	r := chance(5)
	var text strings.Builder
	text.WriteString(goHead + prelude)
	var bodies []string
	var runs []api.Run
	for len(runs) < 250 {
		body := someBody(r)
		w, f := xref.Open(mainly(prelude, body))
		if f.Why != api.OK {
			continue
		}
		if x := eval.Run(w, enough); x.End != api.EndFuel {
			fmt.Fprintf(&text, "func body%d() {\n%s%s}\n", len(runs), again, body)
			bodies, runs = append(bodies, body), append(runs, x)
		}
	}
	text.WriteString("var all = []func(){")
	for i := range runs {
		fmt.Fprintf(&text, "body%d, ", i)
	}
	parts := strings.Split(goRun(t, text.String()+"}\n"), "end ")
	trace := parts[0]
	for i, x := range runs {
		end, behind, _ := strings.Cut(parts[i+1], "\n")
		if got := eval.Show(x.Trace); got != trace || x.End != endOf(end) {
			t.Fatalf("ends by %d, not by %q; trace\n%s\nnot\n%s\nof\n%s", x.End, end, got, trace, bodies[i])
		}
		trace = behind
	}
}

// goRun is what a Go program writes.
func goRun(t *testing.T, text string) string {
	t.Helper()
	dir := t.TempDir()
	if err := os.WriteFile(filepath.Join(dir, "main.go"), []byte(text), 0o600); err != nil {
		t.Fatal(err)
	}
	c := exec.Command("go", "run", "main.go")
	c.Dir = dir
	c.Env = append(os.Environ(), "GO111MODULE=off", "GOFLAGS=", "GOWORK=off")
	out, err := c.CombinedOutput()
	if err != nil {
		t.Fatalf("%v: %.2000s", err, out)
	}
	return string(out)
}
