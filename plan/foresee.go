package plan

import (
	"slices"

	"moniker/api"
	"moniker/lexer"
	"moniker/modules"
	"moniker/scope"
	"moniker/xref"
)

// Foresee are the clashes of scopes that a new name for a class would bring: occurrences that would be bound to something else, names that would be declared twice.
func Foresee(w *xref.Whole, class []int, name string) ([]api.Clash, api.Errno) {
	files, e := renamed(w, class, name)
	if e != api.OK {
		return nil, e
	}
	s, f := resolved(files)
	if f.Why != api.OK {
		return []api.Clash{{Why: f.Why, At: api.Place{File: f.File, Token: pieceAt(files, f)}}}, api.OK
	}
	return unlike(w, s), api.OK
}

// renamed are a program's files with another name for a class.
func renamed(w *xref.Whole, class []int, name string) ([]api.File, api.Errno) {
	at, e := Places(w, class)
	if e != api.OK {
		return nil, e
	}
	lists, e := Edits(w, at, name)
	if e != api.OK {
		return nil, e
	}
	return Files(w.Program().Files(), lists)
}

func resolved(files []api.File) (*scope.Scopes, api.Fault) {
	p, f := modules.Load(files)
	if f.Why != api.OK {
		return nil, f
	}
	return scope.Resolve(p)
}

// pieceAt is the number of the piece whose bytes hold a fault's; -1: there is none.
func pieceAt(files []api.File, f api.Fault) int {
	pieces, _ := lexer.Scan(files[f.File].Text)
	return slices.IndexFunc(pieces, func(p api.Token) bool { return p.From <= f.At && f.At < p.To })
}

// unlike are the clashes at tokens that are bound to, or make, other declarations than they did. What is bound to a member is left out: scopes do not say what it means.
func unlike(w *xref.Whole, s *scope.Scopes) []api.Clash {
	var out []api.Clash
	old := w.Scopes()
	for file := range w.Program().Files() {
		for n := range w.Program().Tokens(file) {
			at := api.Place{File: file, Token: n}
			isSame := old.Bound(at) == s.Bound(at) && old.Makes(at) == s.Makes(at)
			if !isSame && len(w.Checks().Members(at)) == 0 {
				out = append(out, api.Clash{Why: api.ErrBound, At: at})
			}
		}
	}
	return out
}
