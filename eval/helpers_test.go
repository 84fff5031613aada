package eval_test

import (
	"math/rand/v2"
	"strings"
	"testing"

	"moniker/api"
	"moniker/eval"
	"moniker/xref"
)

func chance(seed uint64) *rand.Rand { return rand.New(rand.NewPCG(seed, 14)) }

func pick[T any](r *rand.Rand, l ...T) T { return l[r.IntN(len(l))] }

// world are the declarations that stand ahead of func main in most tests.
const world = `
type t struct { a int }
type i interface { m(int) }
type e interface { }
func f() int { print(1); return 2 }
`

// mainly is the file a: these declarations in a package main, and the Block of func main.
func mainly(decls, block string) []api.File {
	return []api.File{{Name: "a", Text: "package main\n" + decls + "\nfunc main() { " + block + " }\n"}}
}

// opened is the Whole of files without faults.
func opened(t *testing.T, given []api.File) *xref.Whole {
	t.Helper()
	w, f := xref.Open(given)
	if f != (api.Fault{}) {
		text := given[f.File].Text
		t.Fatalf("%v at %.60q: %.2500q", f, text[min(len(text), f.At):], text)
	}
	return w
}

// marked takes the @ out of files: it stands ahead of a token, whose file and byte are told; File -1: there is none.
func marked(given []api.File) ([]api.File, int, int) {
	file, at := -1, 0
	for i := range given {
		if k := strings.Index(given[i].Text, "@"); k >= 0 {
			file, at = i, k
			given[i].Text = strings.Replace(given[i].Text, "@", "", 1)
		}
	}
	return given, file, at
}

// wanted is how a run is to end.
type wanted struct {
	end   api.End
	trace string
}

// holds runs a program with so much fuel: it must end so, at the token behind the @, if there is one.
func holds(t *testing.T, what string, given []api.File, fuel int, want wanted) api.Run {
	t.Helper()
	given, file, at := marked(given)
	w := opened(t, given)
	r := eval.Run(w, fuel)
	if trace := eval.Show(r.Trace); r.End != want.end || trace != want.trace {
		t.Errorf("%s: %q: end %d, not %d; trace %.300q, not %.300q", what, given, r.End, want.end, trace, want.trace)
	}
	if r.End == api.EndDone && r.At != (api.Place{}) {
		t.Errorf("%s: done at %v", what, r.At)
	}
	if r.End != api.EndDone {
		if p, ok := w.Program().Token(r.At); !ok || file >= 0 && (r.At.File != file || p.From != at) {
			t.Errorf("%s: %q: end %d at %v, byte %d, not %d", what, given, r.End, r.At, p.From, at)
		}
	}
	return r
}

// does holds a Block of func main to what it prints.
func does(t *testing.T, what, decls, block, trace string) {
	t.Helper()
	holds(t, what, mainly(world+decls, block), 1<<20, wanted{api.EndDone, trace})
}

// ends holds a Block of func main to how it ends, at the @.
func ends(t *testing.T, what, decls, block string, end api.End, trace string) {
	t.Helper()
	holds(t, what, mainly(world+decls, block), 1<<22, wanted{end, trace})
}

// spoil writes into a list and its spare room.
func spoil[T any](l []T, with T) {
	l = l[:cap(l)]
	for i := range l {
		l[i] = with
	}
}

// sameRun tells whether two runs are the same.
func sameRun(a, b api.Run) bool {
	return a.End == b.End && a.At == b.At && a.Left == b.Left && eval.Show(a.Trace) == eval.Show(b.Trace) && len(a.Trace) == len(b.Trace)
}
