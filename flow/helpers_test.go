package flow_test

import (
	"strings"
	"testing"

	"moniker/api"
	"moniker/flow"
	"moniker/modules"
	"moniker/scope"
	"moniker/types"
)

// files are written one a text: the name, ": ", the file's text.
func files(all ...string) []api.File {
	var out []api.File
	for _, s := range all {
		name, text, _ := strings.Cut(s, ": ")
		out = append(out, api.File{Name: name, Text: text})
	}
	return out
}

// program is what the layers below know of files.
type program struct {
	p *modules.Program
	s *scope.Scopes
	t *types.Table
}

func opened(t *testing.T, given []api.File) program {
	t.Helper()
	p, f := modules.Load(given)
	if f != (api.Fault{}) {
		t.Fatalf("Load(%.300q): %v", given, f)
	}
	s, f := scope.Resolve(p)
	if f != (api.Fault{}) {
		text := given[f.File].Text
		t.Fatalf("Resolve: %v: %.200q", f, text[max(0, f.At-100):])
	}
	x, f := types.Make(p, s)
	if f != (api.Fault{}) {
		t.Fatalf("Make(%.300q): %v", given, f)
	}
	return program{p, s, x}
}

// head is what stands ahead of a function that is asked of.
const head = "package main; import \"x\"; type T struct { a int; U }; type U struct { }; type M map[string]int; type I interface { }; var _ = x.C; "

// beside is the package that head imports.
const beside = "x/b: package x; const C = 1; type T struct { a int }"

// wrong is what Func tells of the first Func or FuncLit of some lines, and the words of the chapter: a fault of that kind at the byte where the @ stands, which is no part of the lines; with OK none.
type wrong struct {
	lines string
	why   api.Errno
}

func refuse(t *testing.T, all []wrong) {
	t.Helper()
	for _, c := range all {
		want := api.Fault{Why: c.why}
		lines := c.lines
		if at := strings.Index(lines, "@"); at >= 0 {
			want.At = len(head) + at
			lines = lines[:at] + lines[at+1:]
		}
		x := opened(t, files("a: "+head+lines, beside))
		w := newWords(x)
		n := x.firstFunc()
		if got := flow.Func(x.p, x.s, x.t, 0, n); got != want {
			t.Errorf("L4: %s: %v, not %v", c.lines, got, want)
		}
		if got := w.fault(0, n); got != want {
			t.Errorf("L4: %s: the words say %v, not %v", c.lines, got, want)
		}
	}
}

// firstFunc is the first Func or FuncLit of the first file.
func (x program) firstFunc() int {
	for n, k := range x.p.Tree(0).Nodes {
		if k.Kind == api.NodeFunc || k.Kind == api.NodeFuncLit {
			return n
		}
	}
	return -1
}
