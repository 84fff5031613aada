package eval_test

import (
	"slices"
	"strings"
	"sync"
	"testing"

	"moniker/api"
	"moniker/eval"
	"moniker/xref"
)

// isZero tells whether a run is the zero Run.
func isZero(r api.Run) bool {
	return r.End == api.EndDone && r.At == (api.Place{}) && r.Left == 0 && len(r.Trace) == 0
}

// TestNil: P1, 14.1, 14.2: a nil Whole, a nil Machine.
func TestNil(t *testing.T) {
	var none *eval.Machine
	for _, fuel := range []int{0, 1, -1, 1 << 62, 1<<63 - 1, -1 << 63} {
		if r := eval.Run(nil, fuel); !isZero(r) {
			t.Errorf("14.1: Run(nil, %d) = %v", fuel, r)
		}
		if r := none.Go(fuel); !isZero(r) {
			t.Errorf("14.2: Go(%d) of nil = %v", fuel, r)
		}
	}
	if eval.Begin(nil) != nil {
		t.Error("14.2: Begin(nil)")
	}
}

// TestFuelBounds: 14.1, 14.2: fuel below 0 is 0, above 2^62 it is 2^62, in pieces too.
func TestFuelBounds(t *testing.T) {
	const most, took = 1 << 62, 3
	w := opened(t, mainly(world, "print(1)"))
	for _, c := range []struct{ fuel, left int }{{took, 0}, {took + 1, 1}, {most - 1, most - 1 - took}, {most, most - took}, {most + 1, most - took}, {1<<63 - 1, most - took}} {
		if r := eval.Run(w, c.fuel); r.End != api.EndDone || r.Left != c.left || eval.Show(r.Trace) != "1\n" {
			t.Errorf("14.1: with %d: %v", c.fuel, r)
		}
	}
	for _, fuel := range []int{0, -1, -most, -1 << 63} {
		if r := eval.Run(w, fuel); !sameRun(r, eval.Run(w, 0)) || r.End != api.EndFuel || r.Left != 0 {
			t.Errorf("14.1: with %d: %v", fuel, r)
		}
	}
	for _, c := range []struct {
		pieces []int
		all    int
	}{
		{[]int{0}, 0}, {[]int{-5, 2}, 2}, {[]int{2, -5}, 2}, {[]int{1, 1, 1}, 3}, {[]int{-1 << 63, -1 << 63, 5}, 5},
		{[]int{most, 1}, most}, {[]int{most, most, most}, most}, {[]int{1, 1<<63 - 1}, most}, {[]int{1<<63 - 1, 1<<63 - 1, -1 << 63, 7}, most}, {[]int{most - 1, 5}, most}, {[]int{most - 5, 5}, most}, {[]int{most - 5, 4}, most - 1},
	} {
		m := eval.Begin(w)
		var r api.Run
		for _, n := range c.pieces {
			r = m.Go(n)
		}
		if !sameRun(r, eval.Run(w, c.all)) {
			t.Errorf("14.2: %d: %v", c.pieces, r)
		}
	}
}

// TestShow: 14.3.
func TestShow(t *testing.T) {
	num := func(n int64) api.Val { return api.Val{Sort: api.SortInt, Int: n} }
	str := func(s string) api.Val { return api.Val{Sort: api.SortText, Text: s} }
	yes := api.Val{Sort: api.SortBool, Bool: true}
	for _, c := range []struct {
		trace [][]api.Val
		want  string
	}{
		{nil, ""}, {[][]api.Val{}, ""}, {[][]api.Val{{}}, "\n"}, {[][]api.Val{nil, nil}, "\n\n"},
		{[][]api.Val{{num(-1), str("a b"), yes}, {str("")}}, "-1 \"a b\" true\n\"\"\n"},
		{[][]api.Val{{num(-1 << 63)}, {str("\"\\\n\xff\u00e9")}}, "-9223372036854775808\n\"\\\"\\\\\\n\\xff\u00e9\"\n"},
		{[][]api.Val{{{}, num(1), {Sort: 9}, {Sort: api.SortInt, Text: "x"}}}, " 1  \n"},
	} {
		if got := eval.Show(c.trace); got != c.want {
			t.Errorf("14.3: %v: %q, not %q", c.trace, got, c.want)
		}
	}
}

// TestNewMemory: 14.10, P4: answers that are written over change nothing.
func TestNewMemory(t *testing.T) {
	w := opened(t, mainly(world, "for i := range 5 { print(i, \"a\", i > 2); print() }; print(9)"))
	want := eval.Show(eval.Run(w, 1000).Trace)
	m := eval.Begin(w)
	for range 3 {
		for _, r := range []api.Run{eval.Run(w, 1000), m.Go(500)} {
			if got := eval.Show(r.Trace); got != want {
				t.Fatalf("14.10: %q, not %q", got, want)
			}
			for i, event := range r.Trace {
				before := eval.Show(r.Trace[i+1:])
				spoil(event, api.Val{Sort: api.SortText, Text: "spoilt"})
				if eval.Show(r.Trace[i+1:]) != before {
					t.Fatal("P4: lists of one answer share memory")
				}
			}
			spoil(r.Trace, nil)
		}
	}
	// Show keeps nothing, and changes nothing.
	trace := make([][]api.Val, 1, 4)
	trace[0] = append(make([]api.Val, 0, 4), api.Val{Sort: api.SortInt, Int: 3})
	if eval.Show(trace) != "3\n" || len(trace[0][:4][1].Text) > 0 || trace[:4][1] != nil {
		t.Error("P4: Show")
	}
}

// told is what a Whole tells of itself.
func told(w *xref.Whole) string {
	var out strings.Builder
	for i, f := range w.Program().Files() {
		out.WriteString(f.Name + f.Text + w.Outline(i))
	}
	for _, p := range w.Satisfied() {
		out.WriteString(p[0] + p[1])
	}
	return out.String()
}

// TestApart: 14.10, P5: runs of one Whole, of which others are gone on with meanwhile, and by several at once.
func TestApart(t *testing.T) {
	r := chance(6)
	for range 10 {
		w := someWhole(r)
		before, uses := told(w), w.Uses()
		var want []api.Run
		for fuel := range 300 {
			want = append(want, eval.Run(w, fuel*7))
		}
		var all sync.WaitGroup
		for k := range 6 {
			all.Go(func() {
				m := eval.Begin(w)
				m.Go(k)
				for i := range want {
					at := (i*(k+1) + k) % len(want)
					if got := eval.Run(w, at*7); !sameRun(got, want[at]) {
						t.Errorf("14.10: with %d: %v, not %v", at*7, got, want[at])
						return
					}
				}
				if got := m.Go(299*7 - k); !sameRun(got, want[299]) {
					t.Errorf("14.12: %v, not %v", got, want[299])
				}
			})
		}
		all.Wait()
		if told(w) != before || !slices.Equal(w.Uses(), uses) {
			t.Error("14.10: the Whole is changed")
		}
	}
}

// TestMachinesApart: two machines of one Whole are two.
func TestMachinesApart(t *testing.T) {
	w := opened(t, mainly(world, "x := 0; for { x++; print(x) }"))
	a, b := eval.Begin(w), eval.Begin(w)
	a.Go(100)
	if got := b.Go(50); !sameRun(got, eval.Run(w, 50)) {
		t.Errorf("14.2: %v", got)
	}
	if got := a.Go(20); !sameRun(got, eval.Run(w, 120)) {
		t.Errorf("14.2: %v", got)
	}
}

// TestEndless: P1: what never ends by itself ends with its fuel.
func TestEndless(t *testing.T) {
	for _, block := range []string{
		"for { }", "for { ; }", "for true { }", "L: for { continue L }", "for i := 0; ; i++ { }", "for range 9223372036854775807 { }", "x := 0; for { x += x }",
		"for { func() { }() }", "m := map[int]int{}; for i := 0; ; i++ { m[i % 9] = i; delete(m, i % 5); for k := range m { m[k]++ } }", "var s []int; for { s = append(s[:0], 1, 2) }", "p := &t{}; for { p = &t{p.a + 1} }", "for { switch { default: continue } }",
	} {
		w := opened(t, mainly(world, block))
		for _, fuel := range []int{0, 1, 2, 3, 10, 99, 10000, 200000} {
			if r := eval.Run(w, fuel); r.End != api.EndFuel || r.Left != 0 || len(r.Trace) != 0 {
				t.Errorf("P1: %q with %d: %v", block, fuel, r)
			}
		}
	}
}
