package xref

import (
	"slices"

	"moniker/api"
)

// Alike compares two programs token by token: the first occurrence at which bindings differ; OK: none.
func Alike(a, b *Whole) (api.Errno, api.Place) {
	if a == nil || b == nil {
		return api.ErrArg, api.Place{}
	}
	more, last := len(b.pieces) > len(a.pieces), api.Place{}
	for file := range a.pieces {
		here, there := a.tokens(file), b.tokens(file)
		for i, at := range here {
			if i >= len(there) {
				return api.ErrBroken, at
			}
			if why := unlike(a, b, at, there[i]); why != api.OK {
				return why, at
			}
			last = at
		}
		more = more || len(there) > len(here)
	}
	if more {
		return api.ErrBroken, last
	}
	return api.OK, api.Place{}
}

// tokens are a file's, but blanks and comments; none of no file's number.
func (w *Whole) tokens(file int) []api.Place {
	if !w.isFile(file) {
		return nil
	}
	var out []api.Place
	for n, p := range w.pieces[file] {
		if p.Kind != api.TokBlanks && p.Kind != api.TokNote {
			out = append(out, api.Place{File: file, Token: n})
		}
	}
	return out
}

// unlike is why a token of one program is not that of another.
func unlike(a, b *Whole, here, there api.Place) api.Errno {
	kind := a.pieces[here.File][here.Token].Kind
	if kind != b.pieces[there.File][there.Token].Kind {
		return api.ErrBroken
	}
	if kind != api.TokName {
		return api.OK
	}
	if a.isBlank(here) != b.isBlank(there) {
		return api.ErrBroken
	}
	if !slices.Equal(a.Decls(here), b.Decls(there)) {
		return api.ErrBound
	}
	return api.OK
}
