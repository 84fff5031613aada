package scope_test

import (
	"slices"
	"sync"
	"testing"

	"moniker/api"
	"moniker/modules"
	"moniker/scope"
)

func declsOf(w *told) []api.Decl {
	var out []api.Decl
	for _, d := range w.decls {
		out = append(out, d.Decl)
	}
	return out
}

// compare asks Scopes for all that they tell, and holds it against the words.
func compare(t *testing.T, given []api.File, p *modules.Program, s *scope.Scopes, w *told, everywhere bool) {
	t.Helper()
	if got, want := s.Decls(), declsOf(w); !slices.Equal(got, want) {
		t.Fatalf("9.2: %q: %v, not %v", given, got, want)
	}
	for i, g := range w.pages {
		names := map[int]int{}
		for n, node := range g.tree.Nodes {
			if node.Kind == api.NodeName {
				names[node.First] = n
			}
		}
		for k, token := range g.tokens {
			at := api.Place{File: i, Token: k}
			makes, bound := -1, -1
			if n, ok := names[k]; ok {
				makes = w.makes(i, k)
				bound, _ = w.bound(i, n)
			}
			if got := s.Makes(at); got != makes {
				t.Fatalf("9.3: %q: %v: %d, not %d", given, at, got, makes)
			}
			if got := s.Bound(at); got != bound {
				t.Fatalf("9.4: %q: %v %q: %d, not %d", given, at, p.Word(at), got, bound)
			}
			if !everywhere && k%7 > 0 {
				continue
			}
			var known []int
			if token.Kind != api.TokBlanks && token.Kind != api.TokNote {
				known = w.known(i, k)
			}
			if got := s.Known(at); !slices.Equal(got, known) {
				t.Fatalf("9.5: %q: %v: %v, not %v", given, at, got, known)
			}
		}
	}
}

// TestWords: Resolve against the words of 0.5 and chapter 9, over programs by chance (9.1 to 9.5).
func TestWords(t *testing.T) {
	var lock sync.Mutex
	whys := map[api.Errno]int{}
	t.Run("", func(t *testing.T) {
		for seed, wild := range []int{5, 15, 40, 100, 300, 1000, 3000, 10000} {
			t.Run("", func(t *testing.T) {
				t.Parallel()
				r := chance(uint64(seed))
				for i := range 150 {
					why := holdAgainst(t, someFiles(r, wild), i%50 == 0)
					lock.Lock()
					whys[why]++
					lock.Unlock()
				}
			})
		}
	})
	for why, least := range map[api.Errno]int{api.OK: 300, api.ErrTwice: 40, api.ErrSpecial: 25, api.ErrNew: 10, api.ErrUnknown: 100, api.ErrUse: 10} {
		if whys[why] < least {
			t.Errorf("only %d with fault %d", whys[why], why)
		}
	}
}

// holdAgainst holds Resolve of a program against the words, and tells the fault.
func holdAgainst(t *testing.T, given []api.File, everywhere bool) api.Errno {
	p, f := modules.Load(given)
	if f != (api.Fault{}) {
		text := given[f.File].Text
		t.Fatalf("no program: %v: %q", f, text[max(0, f.At-200):min(len(text), f.At+20)])
	}
	s, f := scope.Resolve(p)
	w := wordsOf(p)
	if want := w.first(); f != want || (s == nil) != (f != api.Fault{}) {
		t.Fatalf("9.1: %q: %v, not %v", given, f, want)
	}
	if s != nil {
		compare(t, given, p, s, w, everywhere)
	}
	return f.Why
}
