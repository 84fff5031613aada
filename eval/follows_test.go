package eval_test

import (
	"math/rand/v2"
	"slices"
	"strings"
	"testing"

	"moniker/api"
	"moniker/eval"
	"moniker/xref"
)

// enough is fuel that most programs by chance do not need.
const enough = 1 << 14

// someWhole is a program by chance without faults.
func someWhole(r *rand.Rand) *xref.Whole {
	for {
		w, f := xref.Open(mainly(prelude, someBody(r)))
		if f.Why == api.OK {
			return w
		}
	}
}

// fuels are some amounts up to one, the least and the last ones among them.
func fuels(r *rand.Rand, all, count int) []int {
	out := []int{0, 1, 2, all - 1, all, all + 1}
	for range count {
		out = append(out, r.IntN(all+1))
	}
	return slices.DeleteFunc(out, func(n int) bool { return n < 0 })
}

// TestModel: 14.4 to 14.9: programs by chance, held against the chapter's words, with fuel that ends anywhere.
func TestModel(t *testing.T) {
	r := chance(1)
	met := map[api.End]int{}
	for range 80 {
		w := someWhole(r)
		whole := modelRun(w, enough)
		met[whole.End]++
		for _, fuel := range append(fuels(r, enough-whole.Left, 60), enough) {
			if got, want := eval.Run(w, fuel), modelRun(w, fuel); !sameRun(got, want) {
				t.Fatalf("14: with %d: %d at %v, left %d, %.500q, not %d at %v, left %d, %.500q: %s", fuel, got.End, got.At, got.Left, eval.Show(got.Trace), want.End, want.At, want.Left, eval.Show(want.Trace), w.Program().Files()[0].Text)
			}
		}
	}
	for _, end := range []api.End{api.EndDone, api.EndNil, api.EndIndex, api.EndZero, api.EndAssert, api.EndPanic} {
		if met[end] == 0 {
			t.Errorf("none ended by %d: %v", end, met)
		}
	}
}

// TestMoreFuel: 14.11, 14.14.
func TestMoreFuel(t *testing.T) {
	r := chance(2)
	for range 80 {
		w := someWhole(r)
		whole := eval.Run(w, enough)
		took := enough - whole.Left
		if len(whole.Trace) > took {
			t.Fatalf("14.14: %d events of %d", len(whole.Trace), took)
		}
		last := 0
		list := fuels(r, took, 40)
		slices.Sort(list)
		for _, fuel := range list {
			run := eval.Run(w, fuel)
			if fuel >= took && whole.End != api.EndFuel {
				if want := (api.Run{End: whole.End, At: whole.At, Left: fuel - took, Trace: whole.Trace}); !sameRun(run, want) {
					t.Fatalf("14.11: with %d: %v, not %v", fuel, run, want)
				}
				continue
			}
			if run.End != api.EndFuel || run.Left != 0 || len(run.Trace) < last || len(run.Trace) > fuel {
				t.Fatalf("14.11: with %d: %v", fuel, run)
			}
			last = len(run.Trace)
			if front := whole.Trace[:last]; eval.Show(front) != eval.Show(run.Trace) {
				t.Fatalf("14.11: with %d: %q is no front of %q", fuel, eval.Show(run.Trace), eval.Show(whole.Trace))
			}
		}
		if whole.End == api.EndFuel {
			continue
		}
		for _, fuel := range []int{enough * 3, 1 << 40, 1 << 62, 1<<63 - 1} {
			if run := eval.Run(w, fuel); run.End != whole.End || run.At != whole.At || min(fuel, 1<<62)-run.Left != took {
				t.Fatalf("14.11: with %d: %v", fuel, run)
			}
		}
	}
}

// TestPieces: 14.2, 14.12: fuel in pieces is fuel at once.
func TestPieces(t *testing.T) {
	r := chance(3)
	for range 60 {
		w := someWhole(r)
		m := eval.Begin(w)
		all := 0
		for range 12 {
			n := pick(r, 0, 1, 2, r.IntN(50), r.IntN(3000), -1, -1<<63)
			all += max(n, 0)
			if run, want := m.Go(n), eval.Run(w, all); !sameRun(run, want) {
				t.Fatalf("14.12: with %d: %v, not %v", all, run, want)
			}
		}
	}
	w := opened(t, mainly(world, "for i := range 3 { print(i) }"))
	m := eval.Begin(w)
	for n := range 40 {
		if run, want := m.Go(1), eval.Run(w, n+1); !sameRun(run, want) {
			t.Errorf("14.12: one by one, %d: %v, not %v", n, run, want)
		}
	}
}

// TestAlike: 14.13: other blanks and comments, and a class with a fresh name.
func TestAlike(t *testing.T) {
	r := chance(4)
	for range 40 {
		w := someWhole(r)
		v := opened(t, []api.File{strewn(r, w)})
		compareRuns(t, r, w, v)
		class := classes(w)
		for range 3 {
			d := r.IntN(len(class))
			decl := w.Scopes().Decls()[d]
			if decl.Kind == api.DeclUniverse || decl.Kind == api.DeclPackage || decl.Name == "main" {
				continue
			}
			compareRuns(t, r, w, opened(t, []api.File{renamed(w, class, class[d])}))
		}
	}
}

// compareRuns holds two programs that are alike to each other.
func compareRuns(t *testing.T, r *rand.Rand, a, b *xref.Whole) {
	t.Helper()
	if why, at := xref.Alike(a, b); why != api.OK {
		t.Fatalf("not alike: %d at %v", why, at)
	}
	there := map[api.Place]api.Place{}
	numbers := func(w *xref.Whole) []int {
		var out []int
		for k, p := range w.Program().Tokens(0) {
			if p.Kind != api.TokBlanks && p.Kind != api.TokNote {
				out = append(out, k)
			}
		}
		return out
	}
	to := numbers(b)
	for i, k := range numbers(a) {
		there[api.Place{Token: k}] = api.Place{Token: to[i]}
	}
	for _, fuel := range append(fuels(r, enough-eval.Run(a, enough).Left, 20), enough) {
		x, y := eval.Run(a, fuel), eval.Run(b, fuel)
		if x.End != api.EndDone {
			x.At = there[x.At]
		}
		if !sameRun(x, y) {
			t.Fatalf("14.13: with %d: %v, not %v: %s", fuel, y, x, b.Program().Files()[0].Text)
		}
	}
}

// strewn is a program's file with more blanks and comments.
func strewn(r *rand.Rand, w *xref.Whole) api.File {
	f := w.Program().Files()[0]
	var out strings.Builder
	for _, p := range w.Program().Tokens(0) {
		if p.Kind != api.TokAuto && r.IntN(3) == 0 {
			out.WriteString(pick(r, " ", "\t", " /* x */ ", " /**/", "  /*é*/\t"))
		}
		out.WriteString(f.Text[p.From:p.To])
	}
	return api.File{Name: f.Name, Text: out.String() + "// end"}
}

// renamed is a program's file in which what binds to a class has a fresh name.
func renamed(w *xref.Whole, class []int, number int) api.File {
	f := w.Program().Files()[0]
	var out strings.Builder
	for k, p := range w.Program().Tokens(0) {
		word := f.Text[p.From:p.To]
		if slices.ContainsFunc(w.Decls(api.Place{Token: k}), func(d int) bool { return class[d] == number }) {
			word = "fresh_Name"
		}
		out.WriteString(word)
	}
	return api.File{Name: f.Name, Text: out.String()}
}

// classes are the declarations' classes by 0.11: of each the number of its class.
func classes(w *xref.Whole) []int {
	decls, table := w.Scopes().Decls(), w.Table()
	out := make([]int, len(decls))
	for d := range out {
		out[d] = d
	}
	tie := func(list []int) {
		for _, d := range list {
			from, to := out[d], out[list[0]]
			for i := range out {
				if out[i] == from {
					out[i] = to
				}
			}
		}
	}
	var ids []int
	for d, decl := range decls {
		switch decl.Kind {
		case api.DeclEmbed:
			tie(w.Decls(decl.At))
		case api.DeclType:
			ids = append(ids, table.Named(d), table.Pointer(table.Named(d)))
		}
	}
	for _, d := range decls {
		for _, id := range ids {
			tie(table.Met(id, d.Name))
			tie(table.Every(id, d.Name))
		}
	}
	for _, x := range ids {
		for _, i := range ids {
			if !table.Satisfies(x, i) {
				continue
			}
			for _, m := range table.Methods(i) {
				for _, own := range table.Methods(x) {
					if decls[own].Name == decls[m].Name {
						tie([]int{m, own})
					}
				}
			}
		}
	}
	return out
}
