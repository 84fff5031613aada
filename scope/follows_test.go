package scope_test

import (
	"math/rand/v2"
	"slices"
	"strings"
	"testing"

	"moniker/api"
	"moniker/modules"
	"moniker/scope"
	"moniker/tree"
)

// taken calls do with programs by chance that Resolve takes.
func taken(t *testing.T, seed uint64, count int, do func(r *rand.Rand, given []api.File, p *modules.Program, s *scope.Scopes)) {
	t.Helper()
	r := chance(seed)
	for count > 0 {
		given := someFiles(r, 3000)
		p := loaded(t, given)
		if s, f := scope.Resolve(p); f == (api.Fault{}) {
			do(r, given, p, s)
			count--
		}
	}
}

// TestMadeOnce: 9.8, from the answers and the trees alone.
func TestMadeOnce(t *testing.T) {
	taken(t, 30, 150, func(_ *rand.Rand, given []api.File, p *modules.Program, s *scope.Scopes) {
		l := s.Decls()
		makers := make([]int, len(l))
		for i := range given {
			g := wordsOf(p).pages[i]
			for k := range g.tokens {
				at := api.Place{File: i, Token: k}
				if d := s.Makes(at); d >= 0 {
					makers[d]++
					if l[d].At != at || l[d].Name != p.Word(at) {
						t.Fatalf("9.8: %q: %v makes %v", given, at, l[d])
					}
				}
				if d := s.Bound(at); d >= 0 && l[d].Name != p.Word(at) {
					t.Fatalf("9.8: %q: %v is bound to %v", given, at, l[d])
				}
			}
			for n, node := range g.tree.Nodes {
				at := api.Place{File: i, Token: node.First}
				free := node.Kind != api.NodeName || p.Word(at) == "_" || g.oneOf(n, 1, api.NodeSelect) || g.oneOf(n, 0, api.NodePair)
				if !free && s.Bound(at) < 0 && !g.oneOf(n, 0, api.NodeBreak, api.NodeContinue) {
					t.Fatalf("9.8: %q: %v %s is not bound", given, at, p.Word(at))
				}
			}
		}
		for d, n := range makers {
			if want := l[d].At.File >= 0; (n == 1) != want || n > 1 {
				t.Fatalf("9.8: %q: %v is made %d times", given, l[d], n)
			}
		}
	})
}

// TestBoundIsKnown: 9.9.
func TestBoundIsKnown(t *testing.T) {
	taken(t, 31, 60, func(_ *rand.Rand, given []api.File, p *modules.Program, s *scope.Scopes) {
		l := s.Decls()
		for i := range given {
			g := wordsOf(p).pages[i]
			for n, node := range g.tree.Nodes {
				at := api.Place{File: i, Token: node.First}
				if node.Kind != api.NodeName || s.Bound(at) < 0 || s.Makes(at) >= 0 && l[s.Makes(at)].Kind != api.DeclEmbed || g.oneOf(n, 0, api.NodeFile, api.NodeBreak, api.NodeContinue) || g.oneOf(n, 1, api.NodeSelect) {
					continue
				}
				known := s.Known(at)
				same := 0
				for _, d := range known {
					if l[d].Name == p.Word(at) {
						same++
					}
				}
				if !slices.Contains(known, s.Bound(at)) || same != 1 {
					t.Fatalf("9.9: %q: %v %s", given, at, p.Word(at))
				}
			}
		}
	})
}

// respelled are files with other bytes in the place of some tokens.
func respelled(p *modules.Program, other func(at api.Place, word string) string) []api.File {
	out := p.Files()
	for i, f := range out {
		var text strings.Builder
		for k, x := range p.Tokens(i) {
			text.WriteString(other(api.Place{File: i, Token: k}, f.Text[x.From:x.To]))
		}
		out[i].Text = text.String()
	}
	return out
}

// TestFresh: 9.10.
func TestFresh(t *testing.T) {
	kinds := map[api.DeclKind]int{}
	taken(t, 32, 250, func(r *rand.Rand, given []api.File, p *modules.Program, s *scope.Scopes) {
		l := s.Decls()
		for range 4 {
			d := r.IntN(len(l))
			if !slices.Contains([]api.DeclKind{api.DeclConst, api.DeclVar, api.DeclFunc, api.DeclImport, api.DeclLabel}, l[d].Kind) || l[d].At.File < 0 || l[d].Name == "main" || l[d].Name == "init" || isEmbedded(p, s, d) {
				continue
			}
			kinds[l[d].Kind]++
			renamed := respelled(p, func(at api.Place, word string) string {
				if s.Bound(at) == d {
					return "fresh"
				}
				return word
			})
			q, u := resolved(t, renamed)
			want := slices.Clone(l)
			want[d].Name = "fresh"
			if !slices.Equal(u.Decls(), want) {
				t.Fatalf("9.10: %q: %v to fresh: %v", given, l[d], u.Decls())
			}
			for i := range given {
				for k := range q.Tokens(i) {
					if at := (api.Place{File: i, Token: k}); s.Bound(at) != u.Bound(at) || s.Makes(at) != u.Makes(at) {
						t.Fatalf("9.10: %q: %v to fresh: %v", given, l[d], at)
					}
				}
			}
		}
	})
	if len(kinds) != 5 {
		t.Errorf("only kinds %v", kinds)
	}
}

// isEmbedded tells whether an embedded type's last name is bound to a declaration.
func isEmbedded(p *modules.Program, s *scope.Scopes, d int) bool {
	for i := range p.Files() {
		for _, k := range occurrences(p, i) {
			at := api.Place{File: i, Token: k}
			if s.Bound(at) == d && s.Makes(at) >= 0 && s.Makes(at) != d {
				return true
			}
		}
	}
	return false
}

// tokensOf are the numbers of a file's tokens.
func tokensOf(p *modules.Program, file int) []int {
	var out []int
	for k, x := range p.Tokens(file) {
		if x.Kind != api.TokBlanks && x.Kind != api.TokNote {
			out = append(out, k)
		}
	}
	return out
}

// TestBlind: blanks and comments between tokens change nothing but the tokens' numbers (9.11).
func TestBlind(t *testing.T) {
	taken(t, 33, 60, func(r *rand.Rand, given []api.File, p *modules.Program, s *scope.Scopes) {
		q, u := resolved(t, respelled(p, func(_ api.Place, word string) string {
			if strings.Contains(word, "//") {
				return word
			}
			return pick(r, " ", "/* a, */", "") + word + pick(r, "", "  ", "/*b*/")
		}))
		a, b := s.Decls(), u.Decls()
		for i := range given {
			one, two := tokensOf(p, i), tokensOf(q, i)
			if len(one) != len(two) {
				t.Fatalf("9.11: %q: other tokens", given)
			}
			for j := range one {
				x, y := api.Place{File: i, Token: one[j]}, api.Place{File: i, Token: two[j]}
				if s.Bound(x) != u.Bound(y) || s.Makes(x) != u.Makes(y) || j%5 == 0 && !slices.Equal(s.Known(x), u.Known(y)) {
					t.Fatalf("9.11: %q: %v and %v", given, x, y)
				}
			}
		}
		for d := range a {
			a[d].At.Token, b[d].At.Token = 0, 0
		}
		if !slices.Equal(a, b) {
			t.Fatalf("9.11: %q: %v and %v", given, a, b)
		}
	})
}

// TestApart: other bodies in the packages that a package imports leave its answers as they are (9.12).
func TestApart(t *testing.T) {
	moved := 0
	taken(t, 34, 150, func(_ *rand.Rand, given []api.File, p *modules.Program, s *scope.Scopes) {
		main := slices.IndexFunc(p.Packs(), func(k api.Pack) bool { return k.Name == "main" })
		q, u := resolved(t, otherBodies(p, main))
		a, b := s.Decls(), u.Decls()
		moved += len(a) - len(b)
		said := func(p *modules.Program, l []api.Decl, d, file int) api.Decl {
			if d < 0 {
				return api.Decl{}
			}
			x := l[d]
			x.Of = -1
			if x.At.File != file {
				x.At.Token = 0
			}
			return x
		}
		for _, i := range p.Packs()[main].Files {
			for k := range p.Tokens(i) {
				at := api.Place{File: i, Token: k}
				if x, y := said(p, a, s.Bound(at), i), said(q, b, u.Bound(at), i); x != y {
					t.Fatalf("9.12: %q: %v: %v, then %v", given, at, x, y)
				}
				if x, y := said(p, a, s.Makes(at), i), said(q, b, u.Makes(at), i); x != y {
					t.Fatalf("9.12: %q: %v: %v, then %v", given, at, x, y)
				}
				if k%9 == 0 && names(a, s.Known(at)) != names(b, u.Known(at)) {
					t.Fatalf("9.12: %q: %v: %s", given, at, names(b, u.Known(at)))
				}
			}
		}
	})
	if moved == 0 {
		t.Error("9.12: nothing was changed")
	}
}

// otherBodies are a program's files with { } in the place of all Blocks of functions in all packages but one.
func otherBodies(p *modules.Program, but int) []api.File {
	out := p.Files()
	for i := range out {
		if p.Pack(i) == but {
			continue
		}
		l, x := p.Tokens(i), p.Tree(i)
		text, end := strings.Builder{}, 0
		for n := range tree.Walk(x, 0, func(n int) bool { return x.Nodes[n].Kind == api.NodeFunc }) {
			if x.Nodes[n].Kind == api.NodeFunc {
				block := x.Nodes[tree.Kid(x, n, 3)]
				text.WriteString(out[i].Text[end:l[block.First].From] + "{ other := 1; print(other); }")
				end = l[block.End-1].To
			}
		}
		out[i].Text = text.String() + out[i].Text[end:]
	}
	return out
}
