package check_test

import (
	"math/rand/v2"
	"strings"
	"testing"

	"moniker/api"
	"moniker/check"
	"moniker/flow"
	"moniker/lexer"
	"moniker/modules"
	"moniker/scope"
	"moniker/types"
)

// messed is a text of which some tokens are others, or gone, or twice.
func messed(r *rand.Rand, text string, count int) string {
	l, _ := lexer.Scan(text)
	var words []string
	for _, k := range l {
		words = append(words, text[k.From:k.To])
	}
	for range count {
		at := r.IntN(len(words))
		for l[at].Kind == api.TokBlanks || l[at].Kind == api.TokAuto {
			at = r.IntN(len(words))
		}
		switch r.IntN(8) {
		case 0:
			words[at] = ""
		case 1:
			words[at] += " " + words[at]
		case 2:
			words[at] = pick(r, "nil", "_", "0", `""`, "int", "len", "iota", "true", "x.y", "[]int{}", "func() { }", "T", "S{}", "(", ")", "*", "&", "...", ":", "case 1:", "9223372036854775807")
		default: // one of the same kind, so that much is still taken
			other := r.IntN(len(words))
			for tries := 0; tries < 50 && l[other].Kind != l[at].Kind; tries++ {
				other = r.IntN(len(words))
			}
			words[at] = text[l[other].From:l[other].To]
		}
	}
	return strings.Join(words, "")
}

// TestAnyTokens: Check ends, and does not panic, whatever the layers below take; it tells the same again; flow takes all functions (P1, P5).
func TestAnyTokens(t *testing.T) {
	r := chance(30)
	whys := map[api.Errno]int{}
	for range 1500 {
		given := someFiles(r, 1000)
		for i := range given {
			given[i].Text = messed(r, given[i].Text, r.IntN(4))
		}
		p, _ := modules.Load(given)
		s, _ := scope.Resolve(p)
		x, _ := types.Make(p, s)
		if x == nil {
			continue
		}
		c, f := check.Check(p, s, x)
		if _, again := check.Check(p, s, x); again != f || (c == nil) != (f.Why != api.OK) {
			t.Fatalf("P5: %v, then %v: %.3000q", f, again, given)
		}
		if f.Why != api.OK && (f.File < 0 || f.File >= len(given) || f.At < 0 || f.At >= len(given[f.File].Text)) {
			t.Fatalf("12.2: %v: %.3000q", f, given)
		}
		for i := range given {
			for n, k := range p.Tree(i).Nodes {
				if k.Kind == api.NodeFunc || k.Kind == api.NodeFuncLit {
					flow.Func(p, s, x, i, n)
				}
			}
		}
		whys[f.Why]++
	}
	if len(whys) < 15 {
		t.Errorf("only %v", whys)
	}
}
