package rename

import (
	"slices"

	"moniker/api"
	"moniker/lexer"
	"moniker/plan"
	"moniker/ties"
	"moniker/xref"
)

// question is a rename that is asked for, and what its steps have found out so far.
type question struct {
	open         func([]api.File) (*xref.Whole, api.Fault)
	files        []api.File
	file, offset int
	name         string

	old, now *xref.Whole
	at       api.Place // the occurrence that was asked for
	target   int
	class    []int
	edits    [][]api.Edit // by file
}

// settle does the steps one behind the other: the first refusal, or nil.
func (q *question) settle() error {
	for _, step := range []func() error{
		q.takeByte, q.takeName, q.read, q.find, q.aim,
		q.renew, q.keepBindings, q.keepMeaning, q.keepClass,
	} {
		if err := step(); err != nil {
			return err
		}
	}
	return nil
}

func (q *question) takeByte() error {
	if q.file < 0 || q.file >= len(q.files) || q.offset < 0 || q.offset >= len(q.files[q.file].Text) {
		return refuse(api.ErrArg, nowhere())
	}
	return nil
}

func (q *question) takeName() error {
	if len(q.name) > api.MaxName || !lexer.Identifier(q.name) || q.name == "_" || q.name == "main" || q.name == "init" {
		return refuse(api.ErrNewName, q.here())
	}
	return nil
}

// here is the piece that holds the byte. It is asked of this file alone, whatever the others are.
func (q *question) here() api.Place {
	n := pieceAt(q.files[q.file].Text, q.offset)
	if n == none {
		return nowhere()
	}
	return api.Place{File: q.file, Token: n}
}

func (q *question) read() error {
	w, f := q.open(q.files)
	if f.Why != api.OK {
		return refuse(f.Why, seen(q.files, f))
	}
	q.old = w
	return nil
}

// seen is the piece at which a fault is.
func seen(files []api.File, f api.Fault) api.Place {
	return api.Place{File: f.File, Token: pieceAt(files[f.File].Text, f.At)}
}

func (q *question) find() error {
	at, e := q.old.At(q.file, q.offset)
	if e != api.OK {
		return refuse(e, q.here())
	}
	q.at = at
	return nil
}

func (q *question) aim() error {
	target, e := ties.Target(q.old, q.at)
	if e != api.OK {
		return refuse(e, q.at)
	}
	q.target, q.class = target, ties.Class(q.old, target)
	return nil
}

// renew reads the new files. That edits can be made of a class and a name that were taken, and done, is plan's promise.
func (q *question) renew() error {
	places, _ := plan.Places(q.old, q.class)
	q.edits, _ = plan.Edits(q.old, places, q.name)
	files, _ := plan.Files(q.files, q.edits)
	w, f := q.open(files)
	if f.Why != api.OK {
		return refuse(api.ErrBroken, seen(files, f))
	}
	q.now = w
	return nil
}

func (q *question) keepBindings() error {
	if e, at := xref.Alike(q.old, q.now); e != api.OK {
		return refuse(api.ErrBound, at)
	}
	return nil
}

func (q *question) keepMeaning() error {
	if at, ok := retyped(q.old, q.now); ok {
		return refuse(api.ErrMeaning, at)
	}
	if q.isSatisfactionNew() {
		return refuse(api.ErrMeaning, nowhere())
	}
	return nil
}

func (q *question) keepClass() error {
	if !slices.Equal(q.class, ties.Class(q.now, q.target)) {
		return refuse(api.ErrClass, q.at)
	}
	return nil
}

// changes are the edits of all files, by file, then by place.
func (q *question) changes() []api.Change {
	var out []api.Change
	for file, l := range q.edits {
		for _, e := range l {
			out = append(out, api.Change{File: file, Edit: e})
		}
	}
	return out
}
