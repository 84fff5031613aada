package format_test

import (
	"slices"
	"strings"
	"testing"
	"unsafe"

	"moniker/api"
	"moniker/edits"
	"moniker/format"
	"moniker/parser"
)

// TestManyPieces: a layout may have more pieces than a source may.
func TestManyPieces(t *testing.T) {
	begin, end := "package p;func f(){", "}" // 10 pieces and an auto
	for _, c := range []struct {
		statements int
		more       bool
	}{{(api.MaxPieces - 12) / 2, true}, {(api.MaxPieces - 20) / 3, false}} {
		text := begin + strings.Repeat("a;", c.statements) + end
		laid, fault := format.Format(text)
		if want := "package p\nfunc f() {\n" + strings.Repeat("\ta\n", c.statements) + "}\n"; laid != want || fault != (api.Fault{}) {
			t.Fatalf("F2: %d statements: %.60q, %v", c.statements, laid, fault)
		}
		list, _ := format.Edits(text)
		if s, e := edits.Apply(text, list); s != laid || e != api.OK {
			t.Errorf("F7: %d statements: %.60q, %d", c.statements, s, e)
		}
		close, _ := format.Tight(text)
		if want := strings.TrimSuffix(text, ";}") + "}"; close != want || !format.Alike(text, close) {
			t.Errorf("F3: %d statements: %.60q", c.statements, close)
		}
		again, fault := format.Format(laid)
		if c.more && (again != "" || fault != (api.Fault{Why: api.ErrMany}) || format.Alike(text, laid)) {
			t.Errorf("F1: %d statements: %.60q, %v", c.statements, again, fault)
		}
		if !c.more {
			follows(t, text, laid, close, list)
		}
	}
}

// TestDeep: frames in one another as deep as they may be, tabs and all.
func TestDeep(t *testing.T) {
	const n = api.MaxDepth - 3 // a File, a list, a Func are around them
	text := "package p;func f()" + strings.Repeat("{", n) + strings.Repeat("}", n)
	want := "package p\nfunc f() "
	for i := range n - 1 {
		want += "{\n" + strings.Repeat("\t", i+1)
	}
	want += "{}"
	for i := range n - 1 {
		want += "\n" + strings.Repeat("\t", n-2-i) + "}"
	}
	laidOut(t, text, want+"\n")
	if _, fault := format.Format("package p;func f()" + strings.Repeat("{", n+1) + strings.Repeat("}", n+1)); fault.Why != api.ErrDeep {
		t.Errorf("F1: %v", fault)
	}
}

// TestAnyBytes: sources with bytes changed have a layout or parser's fault (P1, F1).
func TestAnyBytes(t *testing.T) {
	r := chance(2)
	bits := []string{"", " ", "\n", ";", "{", "}", "(", ")", "//", "/*", "*/", "\"", "'", "`", ":", "case", "a", "1", "\xff", "\x00", "else", ",", "."}
	wholes := 0
	for _, text := range sources(t, 3, 600) {
		for range 1 + r.IntN(2) {
			at := r.IntN(len(text) + 1)
			text = text[:at] + bits[r.IntN(len(bits))] + text[min(len(text), at+r.IntN(3)):]
		}
		laid, fault := format.Format(text)
		close, other := format.Tight(text)
		list, third := format.Edits(text)
		if _, _, want := parser.File(text); fault != want || other != want || third != want {
			t.Fatalf("F1: %q: %v, %v, %v, not %v", text, fault, other, third, want)
		}
		if fault != (api.Fault{}) {
			if laid != "" || close != "" || len(list) != 0 || format.Alike(text, text) {
				t.Fatalf("F1: %q: %q, %q, %v", text, laid, close, list)
			}
			continue
		}
		wholes++
		if want := newPage(text).format(); laid != want {
			t.Fatalf("F2: %q\n%q\nnot\n%q", text, laid, want)
		}
		follows(t, text, laid, close, list)
	}
	if wholes < 30 {
		t.Errorf("only %d parse", wholes)
	}
}

// shares tells whether a text lies in the bytes of another.
func shares(s, text string) bool {
	at, begin := uintptr(unsafe.Pointer(unsafe.StringData(s))), uintptr(unsafe.Pointer(unsafe.StringData(text)))
	return s != "" && at >= begin && at < begin+uintptr(len(text))
}

// TestNewMemory: what is answered shares nothing with the source or another answer (P4).
func TestNewMemory(t *testing.T) {
	for _, text := range []string{"package p\n", "package p", "package p;var x=a\n\n//b \nvar y=f( a,b )"} {
		laid, _ := format.Format(text)
		close, _ := format.Tight(text)
		list, _ := format.Edits(text)
		again, _ := format.Edits(text)
		if other, _ := format.Format(text); shares(laid, text) || shares(close, text) || shares(other, laid) {
			t.Errorf("P4: %q: an answer is a part of it", text)
		}
		kept := slices.Clone(list)
		for i, e := range list {
			if shares(e.Text, text) || shares(e.Text, laid) || i > 0 && e.Text != "" && shares(e.Text, list[i-1].Text) || e.Text != "" && shares(e.Text, again[i].Text) {
				t.Errorf("P4: %q: the text of edit %d is a part of another", text, i)
			}
		}
		for i := range list[:cap(list)] {
			list[:cap(list)][i] = api.Edit{From: -9}
		}
		if more, _ := format.Edits(text); !slices.Equal(again, kept) || !slices.Equal(more, kept) {
			t.Errorf("P4: %q: %v, not %v", text, more, kept)
		}
	}
}
