package rename_test

import (
	"math/rand/v2"
	"slices"
	"testing"

	"moniker/api"
	"moniker/eval"
	"moniker/rename"
	"moniker/ties"
	"moniker/xref"
)

// asks holds a rename to the model, and, if it is accepted, to all that follows: the new files; none, if it is refused.
func asks(t *testing.T, r *rand.Rand, given []api.File, file, offset int, name string) ([]api.File, api.Errno) {
	t.Helper()
	l, e := rename.Rename(given, file, offset, name)
	c, isRefused := rename.Explain(given, file, offset, name)
	changed, want := judged(given, file, offset, name)
	if e != want.Why || c != want || isRefused != (want.Why != api.OK) {
		t.Fatalf("R1, R2: %d, %d to %q: %d, %v, %v, not %v: %.5000q", file, offset, name, e, c, isRefused, want, given)
	}
	if e != api.OK {
		if len(l) > 0 {
			t.Fatalf("P2: %v beside %d", l, e)
		}
		return nil, e
	}
	now, e := rename.Apply(given, l)
	if e != api.OK || !slices.Equal(now, rewritten(given, changed, name)) {
		t.Fatalf("R3: %d, %d to %q: %d: %.5000q", file, offset, name, e, now)
	}
	old, new := opened(t, given), opened(t, now)
	word := old.Program().Word(changed[0])
	holdsBytes(t, old, l, changed, word, name)
	holdsBindings(t, old, new, changed, name)
	holdsRuns(t, r, old, new)
	back, e := rename.Rename(now, file, rename.Back(l, file, offset), word)
	if was, _ := rename.Apply(now, back); e != api.OK || !slices.Equal(was, given) {
		t.Fatalf("P15: %d, %d to %q and back: %d: %.5000q", file, offset, name, e, given)
	}
	return now, api.OK
}

// holdsBytes: P12: the changes are the occurrences of the class, sorted; each replaces the old name.
func holdsBytes(t *testing.T, old *xref.Whole, l []api.Change, changed []api.Place, word, name string) {
	t.Helper()
	var want []api.Change
	for _, at := range changed {
		p, _ := old.Program().Token(at)
		want = append(want, api.Change{File: at.File, Edit: api.Edit{From: p.From, To: p.To, Text: name}})
		if got := old.Program().Word(at); got != word {
			t.Fatalf("P12: %s, not %s", got, word)
		}
	}
	if !slices.Equal(l, want) {
		t.Fatalf("P12: %v, not %v", l, want)
	}
	for i := range l[1:] {
		if a, b := l[i], l[i+1]; a.File > b.File || a.File == b.File && a.Edit.To >= b.Edit.From {
			t.Fatalf("P12: %v ahead of %v", a, b)
		}
	}
}

// holdsBindings: P9, P10: one shape, the same bindings, types, satisfactions, classes; names differ at the occurrences of the class alone.
func holdsBindings(t *testing.T, old, new *xref.Whole, changed []api.Place, name string) {
	t.Helper()
	if !slices.Equal(old.Uses(), new.Uses()) || !slices.Equal(ties.Classes(old), ties.Classes(new)) || !slices.Equal(satisfied(old), satisfied(new)) {
		t.Fatalf("P10: %.5000q, %.5000q", old.Program().Files(), new.Program().Files())
	}
	for file := range old.Program().Files() {
		if !slices.Equal(old.Program().Tree(file).Nodes, new.Program().Tree(file).Nodes) {
			t.Fatalf("P10: trees of file %d", file)
		}
		a, b := old.Program().Tokens(file), new.Program().Tokens(file)
		if len(a) != len(b) {
			t.Fatalf("P10: %d, not %d pieces", len(b), len(a))
		}
		for n := range a {
			at := api.Place{File: file, Token: n}
			want := old.Program().Word(at)
			if slices.Contains(changed, at) {
				want = name
			}
			if a[n].Kind != b[n].Kind || new.Program().Word(at) != want {
				t.Fatalf("P10: %v: %s, not %s", at, new.Program().Word(at), want)
			}
			if !slices.Equal(old.Checks().Way(at), new.Checks().Way(at)) {
				t.Fatalf("P10: %v: another way", at)
			}
		}
	}
	if !slices.Equal(old.Checks().Start(), new.Checks().Start()) {
		t.Fatal("P10: another start")
	}
}

// enough is fuel that most programs by chance do not need.
const enough = 1 << 14

// holdsRuns: P11: with some fuel, the least and the last ones among it, both run alike.
func holdsRuns(t *testing.T, r *rand.Rand, old, new *xref.Whole) {
	t.Helper()
	took := enough - eval.Run(old, enough).Left
	for _, fuel := range []int{0, 1, took - 1, took, took + 1, enough, r.IntN(took + 1), r.IntN(took + 1)} {
		a, b := eval.Run(old, fuel), eval.Run(new, fuel)
		if a.End != b.End || a.At != b.At || a.Left != b.Left || len(a.Trace) != len(b.Trace) || eval.Show(a.Trace) != eval.Show(b.Trace) {
			t.Fatalf("P11: with %d: %d at %v, left %d, not %d at %v, left %d: %.5000q", fuel, b.End, b.At, b.Left, a.End, a.At, a.Left, new.Program().Files())
		}
	}
}

// isMember tells the kinds apart that may be of one class.
func isMember(kind api.DeclKind) bool {
	return slices.Contains([]api.DeclKind{api.DeclType, api.DeclField, api.DeclEmbed, api.DeclMethod, api.DeclShape}, kind)
}

// someAsk is a byte of a program and a new name: mostly of an identifier that may be renamed, and one that another of its sort has.
func someAsk(r *rand.Rand, w *xref.Whole) (int, int, string) {
	all, decls := occurrences(w), w.Scopes().Decls()
	at := pick(r, all...)
	for range 3 {
		if _, e := ties.Target(w, at); e != api.OK {
			at = pick(r, all...)
		}
	}
	if d := pick(r, decls...); d.At.File >= 0 && r.IntN(2) == 0 {
		at = d.At
	}
	isMine := func(d api.Decl) bool {
		return d.At.File >= 0 && isMember(d.Kind) == isMember(decls[w.Decls(at)[0]].Kind)
	}
	name := pick(r, decls...).Name
	switch k := r.IntN(20); {
	case k < 10:
		name = pick(r, slices.DeleteFunc(slices.Clone(decls), func(d api.Decl) bool { return !isMine(d) })...).Name
	case k < 13:
		name = pick(r, pool...)
	case k < 14:
		name = pick(r, "x", "q", "y", "é", "Fresh", "main", "_")
	}
	p, _ := w.Program().Token(at)
	offset := p.From + r.IntN(p.To-p.From)
	if r.IntN(20) == 0 {
		offset = r.IntN(len(w.Program().Files()[at.File].Text))
	}
	return at.File, offset, name
}

// walk renames programs by chance again and again, so that more and more names are shared: how often it met each refusal.
func walk(t *testing.T, r *rand.Rand, programs, steps int, grow func(r *rand.Rand) []api.File) map[api.Errno]int {
	t.Helper()
	met := map[api.Errno]int{}
	for range programs {
		w := opened(t, grow(r))
		for range steps {
			given := w.Program().Files()
			file, offset, name := someAsk(r, w)
			now, e := asks(t, r, given, file, offset, name)
			met[e]++
			if e == api.OK && r.IntN(4) > 0 {
				w = opened(t, now)
			}
		}
	}
	return met
}

// TestWalk: P8 to P13, P15, R1 to R4: renames in programs of all kinds.
func TestWalk(t *testing.T) {
	t.Parallel()
	met := walk(t, chance(1), 16, 30, func(r *rand.Rand) []api.File { return someFiles(r, 3+r.IntN(6)) })
	for _, e := range []api.Errno{api.OK, api.ErrNewName, api.ErrNowhere, api.ErrTarget, api.ErrBroken, api.ErrBound} {
		if met[e] < 1 {
			t.Errorf("few of %d: %v", e, met)
		}
	}
}

// TestWalkFaces: the same, in programs in which satisfactions and classes may be others.
func TestWalkFaces(t *testing.T) {
	t.Parallel()
	met := walk(t, chance(2), 120, 30, someFaces)
	for _, e := range []api.Errno{api.OK, api.ErrBroken, api.ErrMeaning, api.ErrClass} {
		if met[e] < 20 {
			t.Errorf("few of %d: %v", e, met)
		}
	}
}

// TestWalkInts: the same, in programs in which names are caught by others.
func TestWalkInts(t *testing.T) {
	t.Parallel()
	met := walk(t, chance(3), 30, 30, someWhole)
	for _, e := range []api.Errno{api.OK, api.ErrBroken, api.ErrBound} {
		if met[e] < 100 {
			t.Errorf("few of %d: %v", e, met)
		}
	}
}
