package lexer_test

import (
	"slices"
	"sync"
	"testing"

	"moniker/api"
	"moniker/lexer"
)

func spoil(l []api.Token) {
	l = l[:cap(l)]
	for i := range l {
		l[i] = api.Token{Kind: 77, From: -1, To: -2}
	}
}

// TestNewMemory: P4, spare room included.
func TestNewMemory(t *testing.T) {
	const text = "a := b + 1\n// x\n"
	want := slices.Clone(scanned(t, text))
	whole := append(slices.Clone(want), api.Token{Kind: 5, From: 6, To: 7}, api.Token{Kind: 8, From: 9, To: 10})
	before := slices.Clone(whole)
	l := whole[:len(want)]
	e := api.Edit{From: len(text), To: len(text)}

	first, second := scanned(t, text), scanned(t, text)
	_, third, _ := lexer.Rescan(text, l, e)
	_, fourth, _ := lexer.Rescan(text, l, e)
	lexer.Sound(text, l)
	spoil(first)
	spoil(third)
	if !slices.Equal(whole, before) {
		t.Error("P4: what was handed in was changed, or an answer shares memory with it")
	}
	spoil(whole)
	if !slices.Equal(second, want) || !slices.Equal(fourth, want) {
		t.Error("P4: two answers share memory, or what was handed in is kept")
	}
}

// TestManyAtOnce: P5: nothing is kept from call to call.
func TestManyAtOnce(t *testing.T) {
	const text = "func f() { return a<<=b }\n"
	want := scanned(t, text)
	var all sync.WaitGroup
	for range 8 {
		all.Go(func() {
			for range 200 {
				if l, f := lexer.Scan(text); f != none || !slices.Equal(l, want) {
					t.Error("P5: another answer")
				}
			}
		})
	}
	all.Wait()
}
