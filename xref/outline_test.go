package xref_test

import (
	"math"
	"slices"
	"strings"
	"testing"

	"moniker/api"
	"moniker/lexer"
	"moniker/tree"
	"moniker/xref"
)

// TestOutline: 13.8: the chapter's example and one for each kind.
func TestOutline(t *testing.T) {
	for _, c := range []struct {
		lines string
		want  []string
	}{
		{"const c = 1\nfunc f(a string) int { b := a; return len(b) }", []string{"const c: int", "  func f: func(string) int", "  var a: string", "    var b: string"}},
		{"", nil},
		{"const ( a, _ = iota, 2; b, c ); const d T = 1; const e, g = \"\", true; type T int", []string{"const a: int", "const b: int", "const c: int", `const d: "".T`, "const e: string", "const g: bool", "type T: int"}},
		{"var a, _, b = 1, \"\", \"\"; var c, d []*T; var _ = 1; type T map[string]func(int, U) (*U, bool); type U struct { }", []string{"var a: int", "var b: string", `var c: []*"".T`, `var d: []*"".T`, `type T: map[string]func(int, "".U) (*"".U, bool)`, `type U: "".U`}},
		{"type ( a struct { b, _ int; *c; d []a }; c struct { }; e interface { g(int) string; h; i() }; h interface { }; j a2; a2 *a; k j )", []string{`type a: "".a`, "field b of a: int", `embed c of a: *"".c`, `field d of a: []"".a`, `type c: "".c`, `type e: "".e`, "shape g of e: func(int) string", "shape i of e: func()", `type h: "".h`, `type j: *"".a`, `type a2: *"".a`, `type k: *"".a`}},
		{"type _ struct { a int; b }; type b struct { }; type _ interface { c(); b2 }; type b2 interface { }; type _ int", []string{"field a: int", `embed b: "".b`, `type b: "".b`, "shape c: func()", `type b2: "".b2`}},
		{"type t int; func (r *t) a(b, _, c int, d t) (t, int) { return d, b }; func (t) e() { }; func (_ t) g() { }", []string{"type t: int", `  var r: *"".t`, `  method a of t: func(int, int, int, "".t) ("".t, int)`, "  var b: int", "  var c: int", `  var d: "".t`, "  method e of t: func()", "  method g of t: func()"}},
		{"func a(b, c int, d func(string) bool, _ []int) { }; func _(e int) (int, []string) { return 1, nil }; func init() { }; func init() { }; func g() func() { return nil }", []string{"  func a: func(int, int, func(string) bool, []int)", "  var b: int", "  var c: int", "  var d: func(string) bool", "  var e: int", "  func init: func()", "  func init: func()", "  func g: func() func()"}},
		{"func f(x e) { if a := 1; a > 0 { b := 2; _ = b } else if c := 3; c > 0 { } else { d := 4; _ = d } }; type e interface { }", []string{`  func f: func("".e)`, `  var x: "".e`, "      var a: int", "        var b: int", "        var c: int", "          var d: int", `type e: "".e`}},
		{"func f(x e) { switch a := 1; a { case 1: b := 2; _ = b; default: c := 3; _ = c }; switch d := 1; h := x.(type) { case int: i := h; print(i, d); default: _ = h } }; type e interface { }", []string{`  func f: func("".e)`, `  var x: "".e`, "      var a: int", "          var b: int", "          var c: int", "      var d: int", "      var h", "          var i: int", `type e: "".e`}},
		{"func f() { L: for a := 0; a < 1; a++ { b := a; _ = b; M: for c, d := range \"e\" { g := c; print(d, g); break M }; break L }; { N: for { break N } } }", []string{"  func f: func()", "    label L", "      var a: int", "        var b: int", "        label M", "          var c: int", "          var d: int", "            var g: int", "      label N"}},
		{"var v = func(a int) { var b = func(c string) { d := c; _ = d }; _ = b }; func f() { const a = 1; type b struct { c int }; type d b2; var e = func(g int) { }; _ = e; type h int }; type b2 int", []string{"var v: func(int)", "  var a: int", "    var b: func(string)", "      var c: string", "        var d: string", "  func f: func()", "    const a: int", `    type b: "".b#23`, "    field c of b: int", "    type d: int", "    var e: func(int)", "      var g: int", "    type h: int", "type b2: int"}},
	} {
		w := opened(t, mainly(c.lines))
		want := "package main\n"
		for _, line := range append(slices.Clone(c.want), "  func main: func()") {
			want += line + "\n"
		}
		if got := w.Outline(0); got != want {
			t.Errorf("13.8: %s:\n%s\nnot\n%s", c.lines, got, want)
		}
		for _, file := range []int{-1, 1, math.MinInt, math.MaxInt} {
			if got := w.Outline(file); got != "" {
				t.Errorf("13.8: Outline(%d) = %q", file, got)
			}
		}
	}
}

// TestOutlineFiles: 13.8: a package's name in its first file alone, imports with and without a name.
func TestOutlineFiles(t *testing.T) {
	w := opened(t, files("m/a: package main; import ( \"x/y\"; q \"x\" ); import r \"x/y\"; func main() { _, _, _ = z.V, q.V, r.V }", "m/b: package main; import \"x/y\"; import \"x\"; var v, w = z.V, x.V", "x/c: package x; var V S; type S struct { }; func F(s S) { }", "x/y/d: package z; import \"x\"; type E struct { x.S; *T }; type T int; var V = x.V"))
	for file, want := range []string{
		"package main\nimport z\nimport q\nimport r\n  func main: func()\n",
		"import z\nimport x\nvar v: \"x\".S\nvar w: \"x\".S\n",
		"package x\nvar V: \"x\".S\ntype S: \"x\".S\n  func F: func(\"x\".S)\n  var s: \"x\".S\n",
		"package z\nimport x\ntype E: \"x/y\".E\nembed S of E: \"x\".S\nembed T of E: *\"x/y\".T\ntype T: int\nvar V: \"x\".S\n",
	} {
		if got := w.Outline(file); got != want {
			t.Errorf("13.8: file %d: %q, not %q", file, got, want)
		}
	}
}

// wordOutline is Outline by the chapter's words: token by token, the nodes around counted by their runs.
func wordOutline(w *xref.Whole, file int) string {
	decls, l, tr := w.Scopes().Decls(), w.Program().Tokens(file), w.Program().Tree(file)
	around := []api.NodeKind{api.NodeBlock, api.NodeIf, api.NodeSwitch, api.NodeMatch, api.NodeFor, api.NodeRange, api.NodeCase, api.NodeDefault, api.NodeFunc, api.NodeFuncLit}
	out := ""
	for k := range l {
		here := api.Place{File: file, Token: k}
		line, depth := "", 0
		for n, node := range tr.Nodes {
			if slices.Contains(around, node.Kind) && node.First <= k && k < node.End {
				depth++
			}
			if node.Kind == api.NodeImportSpec && tr.Nodes[n+1].Kind == api.NodeNone && l[k].Kind == api.TokText && node.First == k {
				path, _ := lexer.Text(w.Program().Word(here))
				for _, p := range w.Program().Packs() {
					if p.Path == path {
						line = "import " + p.Name
					}
				}
			}
		}
		if d := w.Scopes().Makes(here); d >= 0 {
			line = kindWord[decls[d].Kind] + " " + decls[d].Name
			if decls[d].Of >= 0 {
				line += " of " + decls[decls[d].Of].Name
			}
			if s := wordType(w, d, decls[d]); s != "" {
				line += ": " + s
			}
		}
		if line != "" {
			out += strings.Repeat("  ", depth) + line + "\n"
		}
	}
	return out
}

// wordType is the text of a declaration's type.
func wordType(w *xref.Whole, number int, d api.Decl) string {
	tr := w.Program().Tree(d.At.File)
	name := slices.IndexFunc(tr.Nodes, func(n api.Node) bool { return n.Kind == api.NodeName && n.First == d.At.Token })
	switch d.Kind {
	case api.DeclConst, api.DeclVar:
		return w.Table().Show(w.Checks().Type(d.At.File, name))
	case api.DeclType:
		return w.Table().Show(w.Table().Under(w.Table().Named(number)))
	case api.DeclFunc:
		var params, results []string
		for _, p := range tree.Kids(tr, tree.Kid(tr, name+1, 0)) {
			for range tree.Kids(tr, tree.Kid(tr, p, 0)) {
				params = append(params, w.Table().Show(w.Table().Written(d.At.File, tree.Kid(tr, p, 1))))
			}
		}
		for _, n := range tree.Kids(tr, tree.Kid(tr, name+1, 1)) {
			results = append(results, w.Table().Show(w.Table().Written(d.At.File, n)))
		}
		s := "func(" + strings.Join(params, ", ") + ")"
		if len(results) == 1 {
			return s + " " + results[0]
		}
		if len(results) > 1 {
			return s + " (" + strings.Join(results, ", ") + ")"
		}
		return s
	}
	return w.Table().Show(w.Table().Of(number))
}

// TestOutlineByWords: 13.8.
func TestOutlineByWords(t *testing.T) {
	r := chance(6)
	for range 60 {
		w := opened(t, someFiles(r))
		for file, f := range w.Program().Files() {
			if got, want := w.Outline(file), wordOutline(w, file); got != want {
				t.Fatalf("13.8: %q, not %q: %.1000q", got, want, f.Text)
			}
		}
	}
}
