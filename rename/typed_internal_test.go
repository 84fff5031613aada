package rename

import (
	"errors"
	"fmt"
	"testing"

	"moniker/api"
	"moniker/xref"
)

// whole is a program of one file.
func whole(t *testing.T, text string) *xref.Whole {
	t.Helper()
	w, f := xref.Open([]api.File{{Name: "a", Text: "package main\n" + text + "\nfunc main() { }\n"}})
	if f != (api.Fault{}) {
		t.Fatalf("%v: %s", f, text)
	}
	return w
}

// TestRetyped: R1, 8: types of expressions, compared by their forms. Where all bindings are the same no rename is known that changes one: so the step is held by itself, to programs of the same tokens.
func TestRetyped(t *testing.T) {
	for _, c := range []struct{ old, now, want string }{ // want: the token at which it is seen; "": nowhere
		{"var a = 1", "var b = 2", ""},
		{"var a = 1", "var a = `1`", "a"},
		{"var a, b = 1, 2", "var a, b = 1, true", "b"},
		{"var a []int", "var a []int", ""},
		{"var a []int", "var a []string", "a"},
		{"var a *int", "var a []int", "a"},
		{"var a map[int]bool", "var a map[bool]int", "a"},
		{"var a map[int][]bool", "var a map[int][]bool", ""},
		{"var a func(int) bool", "var a func(int) int", "a"},
		{"var a func(int) bool", "var a func(bool) bool", "a"},
		{"var a func(int)", "var a func() int", "a"},
		{"var a func(int) (bool, int)", "var a func(int) (bool, int)", ""},
		{"type T int; type U int; var a T", "type U int; type T int; var a U", ""},
		{"type T int; type U int; var a T", "type U int; type T int; var a T", "a"},
		{"type T int; type U int; var a []*T", "type T int; type U int; var a []*U", "a"},
		{"type T int; var a T", "type T int; var a int", "a"},
		{"type T []T2; type T2 int; var a T", "type T []T2; type T2 int; var a []T2", "a"},
		{"type T struct { f *T }; var a = T{}.f", "type T struct { g *T }; var b = T{}.g", ""},
		{"func f() (int, bool) { return 1, true }; var a, b = f()", "func f() (int, bool) { return 1, true }; var a, b = f()", ""},
		{"func f() (int, bool) { return 1, true }; func g() { f() }", "func f() (int, int) { return 1, 1 }; func g() { f() }", "true"},
		{"func f() (int, T) { return 1, 2 }; type T int; func g() { f() }", "func f() (int, int) { return 1, 2 }; type T int; func g() { f() }", "2"},
		{"func f() (int, T) { panic(1) }; type T int; func g() { f() }", "func f() (int, int) { panic(1) }; type T int; func g() { f() }", "f"},
	} {
		old, now := whole(t, c.old), whole(t, c.now)
		at, ok := retyped(old, now)
		if got := old.Program().Word(at); ok != (c.want != "") || got != c.want && (ok || at != api.Place{}) {
			t.Errorf("R1: %s, %s: %v, %s, not %s", c.old, c.now, ok, got, c.want)
		}
	}
}

// TestRefusal: a refusal is told of an error that wraps it too, and of no other.
func TestRefusal(t *testing.T) {
	want := api.Clash{Why: api.ErrBound, At: api.Place{File: 1, Token: 2}}
	err := refuse(want.Why, want.At)
	for _, e := range []error{err, fmt.Errorf("once more: %w", err)} {
		if got, ok := refused(e); !ok || got != want {
			t.Errorf("%v: %v, %v", e, got, ok)
		}
	}
	for _, e := range []error{nil, errors.New("another")} {
		if got, ok := refused(e); ok || got != (api.Clash{}) {
			t.Errorf("%v: %v, %v", e, got, ok)
		}
	}
	if err.Error() == "" {
		t.Error("no text")
	}
}
