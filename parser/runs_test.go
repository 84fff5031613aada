package parser_test

import (
	"strings"
	"testing"

	"moniker/api"
	"moniker/tree"
)

// kindName is a kind as sketches write it.
func kindName(k api.NodeKind) string {
	return tree.Sketch(api.Tree{Nodes: []api.Node{{Kind: k, Size: 1}}})
}

// owners are the nodes that have tokens of their own, but for names and literals, each with these tokens; an auto is written as $.
func owners(text string, l []api.Token, nodes []api.Node) string {
	var out []string
	for n, node := range nodes {
		if node.Kind >= api.NodeName && node.Kind <= api.NodeText {
			continue
		}
		words := []string{kindName(node.Kind)}
		for _, i := range ownOf(l, nodes, n) {
			w := text[l[i].From:l[i].To]
			if l[i].Kind == api.TokAuto {
				w = "$"
			}
			words = append(words, w)
		}
		if len(words) > 1 {
			out = append(out, strings.Join(words, " "))
		}
	}
	return strings.Join(out, " | ")
}

func TestOwnTokens(t *testing.T) {
	const head = "package a; func f() { "
	for _, c := range [][2]string{
		{"package a\nimport x \"y\"; import (\n\"z\"\n\"w\";)\nvar x int\n", "File package $ | List ; $ | Import import | Import import ( $ ; ) | List $ | Var var"},
		{"package a; const (a, b = 1, 2; c); type (T U\nV W)", "File package ; | List ; $ | Const const ( ; ) | ConstSpec = | List , | List , | Types type ( $ )"},
		{"package a; type S struct { a, b p.T; *T }; type I interface { m(a, b,) (c, d,); J; }", "File package ; | List ; $ | Types type | Struct struct { ; } | List , | Select . | Star * | Types type | Interface interface { ; ; } | Shape ( , ) ( , ) | List , | List ,"},
		{"package a; func (t *T) f(a, b int, c []map[d]e,) (g) { }", "File package ; | List $ | Func func | Recv ( ) | Star * | Sig ( , ) ( ) | List , | List , | SliceOf [ ] | MapOf map [ ] | Block { }"},
		{"package a; var x func(T) U = func(a T) U { }", "File package ; | List $ | Var var | VarSpec = | FuncOf func | Shape ( ) | FuncLit func | Sig ( ) | Block { }"},
		{head + "L: a, b = c, d; e := g; h++\n return i, j; break k; fallthrough; }", "File package ; | List $ | Func func | Sig ( ) | Block { ; ; $ ; ; ; } | Label : | Assign = | List , | List , | Define := | Step ++ | Return return | List , | Break break | Fall fallthrough"},
		{head + "if a; b { } else if c { } else { } }", "File package ; | List $ | Func func | Sig ( ) | Block { } | If if ; else | Block { } | If if else | Block { } | Block { }"},
		{head + "switch a; b { case c, d: e; f; default: } }", "File package ; | List $ | Func func | Sig ( ) | Block { } | Switch switch ; { } | Case case : | List , | Block ; ; | Default default :"},
		{head + "switch a; b := c.(type) { case d: ; case e: f\n} }", "File package ; | List $ | Func func | Sig ( ) | Block { } | Match switch ; := . ( type ) { } | Case case : | Block ; | Case case : | Block $"},
		{head + "for a; b; c { }\n for d { }\n for e\n g; { } }", "File package ; | List $ | Func func | Sig ( ) | Block { $ $ } | For for ; ; | Block { } | For for | Block { } | For for $ ; | Block { }"},
		{head + "for a, b := range c { }; for d = range e { }; for range g { } }", "File package ; | List $ | Func func | Sig ( ) | Block { ; ; } | Range for := range | List , | Block { } | Range for = range | Block { } | Range for range | Block { }"},
		{head + "a(b, c...,)[d:e][g].h.(i) }", "File package ; | List $ | Func func | Sig ( ) | Block { } | Assert . ( ) | Select . | Index [ ] | Slice [ : ] | Call ( ... , ) | List ,"},
		{head + "T{a, b: c,}; -(a) + *b }", "File package ; | List $ | Func func | Sig ( ) | Block { ; } | Composite { , } | List , | Pair : | Binary + | Sign - | Paren ( ) | Star *"},
	} {
		l, x := parsed(t, c[0])
		if got := owners(c[0], l, x.Nodes); got != c[1] {
			t.Errorf("3.7: %s:\n%s, not\n%s", c[0], got, c[1])
		}
	}
}

// TestEmptyRuns: what has no token stands at the place of the next one.
func TestEmptyRuns(t *testing.T) {
	for _, c := range [][2]string{
		{"import \"x\"\nfunc f() { }", "None@\"x\" None@f List@) List@{"},
		{"var x int; const y", "List@var List@; None@$ List@$"},
		{"const x = 1", "List@const None@="},
		{"func (T) f(a T) { }; type I interface { m() }", "List@func None@T List@{ List@) List@}"},
		{"func f() { { }; L: ; M: }", "List@func None@f List@) List@{ Empty@; Empty@}"},
		{"func f() { return; break\ncontinue }", "List@func None@f List@) List@{ List@; None@$ None@}"},
		{"func f() { if x { } }", "List@func None@f List@) List@{ None@x None@}"},
		{"func f() { if ; x { } else { } }", "List@func None@f List@) List@{ None@;"},
		{"func f() { switch { } }", "List@func None@f List@) List@{ None@{ None@{ List@}"},
		{"func f() { switch ; { case x: default: } }", "List@func None@f List@) List@{ None@; None@{ Block@default Block@}"},
		{"func f() { switch x.(type) { } }", "List@func None@f List@) List@{ None@x None@x List@}"},
		{"func f() { switch a; x.(type) { } }", "List@func None@f List@) List@{ None@x List@}"},
		{"func f() { switch x := y.(type) { case z: ; } }", "List@func None@f List@) List@{ None@x Empty@;"},
		{"func f() { for { } }", "List@func None@f List@) List@{ None@{ None@{ None@{"},
		{"func f() { for x { } }", "List@func None@f List@) List@{ None@x None@{"},
		{"func f() { for ;x; { } }", "List@func None@f List@) List@{ None@; None@{"},
		{"func f() { for x; ; y { } }", "List@func None@f List@) List@{ None@;"},
		{"func f() { for range x { } }", "List@func None@f List@) List@{ List@range"},
		{"func f() { a(); b{}; c[:] }", "List@func None@f List@) List@{ List@) List@} None@: None@]"},
	} {
		text := "package a; " + c[0]
		l, x := parsed(t, text)
		var got []string
		for _, n := range x.Nodes {
			if n.First == n.End {
				w := "$"
				if p := l[n.First]; p.Kind != api.TokAuto {
					w = text[p.From:p.To]
				}
				got = append(got, kindName(n.Kind)+"@"+w)
			}
		}
		if s := strings.Join(got, " "); s != c[1] {
			t.Errorf("3.1: %s:\n%s, not\n%s", text, s, c[1])
		}
	}
}
