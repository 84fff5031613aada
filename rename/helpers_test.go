package rename_test

import (
	"math/rand/v2"
	"slices"
	"strings"
	"testing"

	"moniker/api"
	"moniker/lexer"
	"moniker/rename"
	"moniker/xref"
)

func chance(seed uint64) *rand.Rand { return rand.New(rand.NewPCG(seed, 17)) }

func pick[T any](r *rand.Rand, l ...T) T { return l[r.IntN(len(l))] }

// files are written one a text: the name, ": ", the file's text.
func files(all ...string) []api.File {
	var out []api.File
	for _, s := range all {
		name, text, _ := strings.Cut(s, ": ")
		out = append(out, api.File{Name: name, Text: text})
	}
	return out
}

// opened is the Whole of files without faults.
func opened(t *testing.T, given []api.File) *xref.Whole {
	t.Helper()
	w, f := xref.Open(given)
	if f != (api.Fault{}) {
		text := given[f.File].Text
		t.Fatalf("%v at %.60q: %.1500q", f, text[min(len(text), f.At):], given)
	}
	return w
}

// asked is a rename that is asked for: files are written as texts, with @ ahead of the byte, $ ahead of each token that is to be changed, # ahead of the one at which a refusal is seen.
type asked struct {
	files        []api.File
	file, offset int
	at           api.Place // {-1 -1}: no # stands there
	changed      []api.Place
}

func read(all ...string) asked {
	q := asked{files: files(all...), file: -1, at: api.Place{File: -1, Token: -1}}
	for i := range q.files {
		var text strings.Builder
		var tokens []int // where those begin that are to be changed
		seen := -1
		for k := range len(q.files[i].Text) {
			switch c := q.files[i].Text[k]; c {
			case '@':
				q.file, q.offset = i, text.Len()
			case '$':
				tokens = append(tokens, text.Len())
			case '#':
				seen = text.Len()
			default:
				text.WriteByte(c)
			}
		}
		q.files[i].Text = text.String()
		pieces, _ := lexer.Scan(q.files[i].Text)
		for n, p := range pieces {
			if p.From == p.To {
				continue
			}
			if p.From == seen {
				q.at = api.Place{File: i, Token: n}
			}
			if slices.Contains(tokens, p.From) {
				q.changed = append(q.changed, api.Place{File: i, Token: n})
			}
		}
	}
	return q
}

// refuses holds a rename to a refusal, and to where it is seen.
func refuses(t *testing.T, q asked, name string, why api.Errno) {
	t.Helper()
	if l, e := rename.Rename(q.files, q.file, q.offset, name); e != why || len(l) > 0 {
		t.Errorf("R1: %.600q, %d, %d to %.50q: %v, %d, not %d", q.files, q.file, q.offset, name, l, e, why)
	}
	if c, ok := rename.Explain(q.files, q.file, q.offset, name); !ok || c != (api.Clash{Why: why, At: q.at}) {
		t.Errorf("R2: %.600q, %d, %d to %.50q: %v, %v, not %d at %v", q.files, q.file, q.offset, name, c, ok, why, q.at)
	}
}

// accepts holds a rename to the tokens that it changes: the changes, and the new files.
func accepts(t *testing.T, q asked, name string) ([]api.Change, []api.File) {
	t.Helper()
	var want []api.Change
	for _, at := range q.changed {
		pieces, _ := lexer.Scan(q.files[at.File].Text)
		want = append(want, api.Change{File: at.File, Edit: api.Edit{From: pieces[at.Token].From, To: pieces[at.Token].To, Text: name}})
	}
	l, e := rename.Rename(q.files, q.file, q.offset, name)
	if e != api.OK || !slices.Equal(l, want) {
		t.Errorf("R1: %.600q, %d, %d to %.50q: %v, %d, not %v", q.files, q.file, q.offset, name, l, e, want)
	}
	if c, ok := rename.Explain(q.files, q.file, q.offset, name); ok || c != (api.Clash{}) {
		t.Errorf("R2: %.600q, %d, %d to %.50q: %v", q.files, q.file, q.offset, name, c)
	}
	now, e := rename.Apply(q.files, l)
	if e != api.OK || !slices.Equal(now, rewritten(q.files, q.changed, name)) {
		t.Errorf("R3: %.600q, %d", now, e)
	}
	return l, now
}

// rewritten are files with a name in the place of some tokens, put together piece by piece.
func rewritten(given []api.File, changed []api.Place, name string) []api.File {
	var out []api.File
	for i, f := range given {
		var text strings.Builder
		pieces, _ := lexer.Scan(f.Text)
		for n, p := range pieces {
			if slices.Contains(changed, api.Place{File: i, Token: n}) {
				text.WriteString(name)
			} else {
				text.WriteString(f.Text[p.From:p.To])
			}
		}
		out = append(out, api.File{Name: f.Name, Text: text.String()})
	}
	return out
}

// occurrences are the places of all identifiers that are not blank.
func occurrences(w *xref.Whole) []api.Place {
	var out []api.Place
	for file := range w.Program().Files() {
		for n, p := range w.Program().Tokens(file) {
			at := api.Place{File: file, Token: n}
			if p.Kind == api.TokName && w.Program().Word(at) != "_" {
				out = append(out, at)
			}
		}
	}
	return out
}

// spoil writes into a list and its spare room.
func spoil[T any](l []T, with T) {
	l = l[:cap(l)]
	for i := range l {
		l[i] = with
	}
}

// roomy is a copy of a list with spare room, which holds something, too.
func roomy[T any](l []T, spare T) []T {
	out := append(make([]T, 0, len(l)+3), l...)
	spoil(out[len(out):], spare)
	return out
}
