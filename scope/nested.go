package scope

import (
	"math"
	"slices"
)

// scope is one of the scopes within one another.
type scope struct {
	around   *scope
	function *scope   // that of the Func or FuncLit whose labels can be named here; nil: there is none
	run      run      // its node's
	names    []string // all that are declared in it
}

// key is a name in a scope.
type key struct {
	in   *scope
	name string
}

// binding is what a name is bound to, at the tokens of a run.
type binding struct {
	decl  int
	known run
}

// run is the tokens of a file from one up to, not with, another.
type run struct{ first, end int }

func (r run) holds(token int) bool { return r.first <= token && token < r.end }

// everywhere is all tokens of any file that lies within a scope.
func everywhere() run { return run{0, math.MaxInt} }

// nowhere is no token at all.
func nowhere() run { return run{} }

// file is what is known of a file.
type file struct {
	pieces []piece
	scopes []*scope // by their first tokens, each ahead of those within it
	counts []run    // where iota is known, by their first tokens, none within another
}

// piece is what a piece of a file makes and is bound to; -1: nothing.
type piece struct {
	isToken      bool
	makes, bound int
}

func nothing() piece { return piece{false, -1, -1} }

// innermost is the innermost scope in whose run a token lies.
func (f file) innermost(token int) *scope {
	behind, _ := slices.BinarySearchFunc(f.scopes, token+1, func(s *scope, first int) int { return s.run.first - first })
	in := f.scopes[behind-1] // there is one: the file's own begins with its first token
	for !in.run.holds(token) {
		in = in.around
	}
	return in
}

// isCounting tells whether iota is known at a token.
func (f file) isCounting(token int) bool {
	behind, _ := slices.BinarySearchFunc(f.counts, token+1, func(r run, first int) int { return r.first - first })
	return behind > 0 && f.counts[behind-1].holds(token)
}
