package build_test

import (
	"fmt"
	"math/rand/v2"
	"slices"
	"strings"
	"testing"

	"moniker/api"
	"moniker/build"
	"moniker/eval"
	"moniker/rename"
	"moniker/xref"
)

func chance(seed uint64) *rand.Rand { return rand.New(rand.NewPCG(seed, 18)) }

func pick[T any](r *rand.Rand, l ...T) T { return l[r.IntN(len(l))] }

// files are written one a text: the name, ": ", the file's text.
func files(all ...string) []api.File {
	var out []api.File
	for _, s := range all {
		name, text, _ := strings.Cut(s, ": ")
		out = append(out, api.File{Name: name, Text: text})
	}
	return out
}

func builder(t *testing.T, workers int) *build.Builder {
	t.Helper()
	b, e := build.New(workers)
	if b == nil || e != api.OK {
		t.Fatalf("18.1: %d workers: %v, %d", workers, b, e)
	}
	return b
}

// opens holds Open to a fault's Why and At, and to the Stats behind it.
func opens(t *testing.T, b *build.Builder, given []api.File, want api.Fault, stats build.Stats) {
	t.Helper()
	w, f := b.Open(given)
	if f != want || (w == nil) != (want.Why != api.OK) {
		t.Errorf("18.2: %.300q: %v, %v, not %v", given, w != nil, f, want)
	}
	counts(t, b, stats)
}

func counts(t *testing.T, b *build.Builder, want build.Stats) {
	t.Helper()
	if got := b.Stats(); got != want {
		t.Errorf("18.4: %v, not %v", got, want)
	}
}

// story is all that a Whole tells, as text; types by what is shown of them, as their numbers may be others.
func story(w *xref.Whole) string {
	if w == nil {
		return "none"
	}
	var out strings.Builder
	p, s, c := w.Program(), w.Scopes(), w.Checks()
	fmt.Fprintln(&out, p.Files(), p.Packs(), p.Order(), s.Decls(), w.Uses(), w.Satisfied())
	for file := range p.Files() {
		fmt.Fprintln(&out, p.Tokens(file), p.Tree(file), p.Pack(file), w.Outline(file))
		for n := range p.Tree(file).Nodes {
			for _, id := range c.Types(file, n) {
				out.WriteString(w.Table().Show(id) + " ")
			}
			v, ok := c.Const(file, n)
			fmt.Fprintln(&out, v, ok)
		}
		for n := range p.Tokens(file) {
			at := api.Place{File: file, Token: n}
			fmt.Fprintln(&out, s.Bound(at), s.Makes(at), w.Decls(at), c.Members(at))
		}
	}
	fmt.Fprintln(&out, eval.Run(w, 1000))
	return out.String()
}

// sameOpen holds Open to xref.Open, by all that is told of the whole.
func sameOpen(t *testing.T, b *build.Builder, given []api.File) {
	t.Helper()
	w, f := b.Open(given)
	want, fault := xref.Open(given)
	if f != fault || (w == nil) != (want == nil) || story(w) != story(want) {
		t.Fatalf("18.2, P17: %.2000q: %v, not %v", given, f, fault)
	}
}

func sameRename(t *testing.T, b *build.Builder, given []api.File, a build.Ask) {
	t.Helper()
	l, e := b.Rename(given, a.File, a.Offset, a.Name)
	want, why := rename.Rename(given, a.File, a.Offset, a.Name)
	if e != why || !slices.Equal(l, want) {
		t.Fatalf("18.3, P17: %.2000q, %v: %v, %d, not %v, %d", given, a, l, e, want, why)
	}
}

func sameAll(t *testing.T, b *build.Builder, given []api.File, asks []build.Ask) []build.Told {
	t.Helper()
	told := b.All(given, asks)
	if len(told) != len(asks) {
		t.Fatalf("18.3: %d answers to %d Asks", len(told), len(asks))
	}
	for i, a := range asks {
		want, why := rename.Rename(given, a.File, a.Offset, a.Name)
		if told[i].Why != why || !slices.Equal(told[i].Changes, want) {
			t.Fatalf("18.3, P17: %.2000q, %v: %v, not %v, %d", given, a, told[i], want, why)
		}
	}
	return told
}

// spoil writes into a list and its spare room.
func spoil[T any](l []T, with T) {
	l = l[:cap(l)]
	for i := range l {
		l[i] = with
	}
}

// roomy is a copy of a list with spare room, which holds something, too.
func roomy[T any](l []T, spare T) []T {
	out := append(make([]T, 0, len(l)+3), l...)
	spoil(out[len(out):], spare)
	return out
}
