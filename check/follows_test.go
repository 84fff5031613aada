package check_test

import (
	"fmt"
	"math"
	"slices"
	"strings"
	"sync"
	"testing"

	"moniker/api"
	"moniker/check"
	"moniker/consts"
	"moniker/tree"
)

// rightOnes are programs by chance that have no fault.
func rightOnes(t *testing.T, seed uint64, count int) []program {
	r := chance(seed)
	var out []program
	for len(out) < count {
		if x, f := opened(t, someFiles(r, 100000)); f.Why == api.OK {
			out = append(out, x)
		}
	}
	return out
}

// TestEveryTyped: 12.11: what is one value has a type, and what goes into a place is assignable to it.
func TestEveryTyped(t *testing.T) {
	for _, x := range rightOnes(t, 21, 60) {
		for file := range x.p.Files() {
			tr := x.p.Tree(file)
			for n, k := range tr.Nodes {
				if id := x.Type(file, n); id >= 0 && x.t.Show(id) == "" {
					t.Fatalf("12.11: type %d has no text", id)
				}
				kids := tree.Kids(tr, n)
				switch k.Kind {
				case api.NodeAssign, api.NodeVarSpec:
					if l := x.p.Tokens(file); k.Kind == api.NodeAssign && l[tree.Own(l, tr, n)[0]].Kind != api.TokIs {
						continue
					}
					left, right := tree.Kids(tr, kids[0]), tree.Kids(tr, kids[len(kids)-1])
					for i := range right {
						a, b := x.Type(file, right[i]), x.Type(file, left[min(i, len(left)-1)])
						if len(left) == len(right) && b >= 0 && (a < 0 || !x.t.Assignable(a, b)) {
							t.Fatalf("12.11: %s to %s", x.t.Show(a), x.t.Show(b))
						}
					}
				case api.NodeCall:
					params, _ := x.t.Parts(x.t.Under(x.Type(file, kids[0])))
					args := tree.Kids(tr, kids[1])
					for i, id := range params {
						if len(args) == len(params) && !x.t.Assignable(x.Type(file, args[i]), id) {
							t.Fatalf("12.11: argument %s to %s", x.t.Show(x.Type(file, args[i])), x.t.Show(id))
						}
					}
				case api.NodeBinary, api.NodeSign, api.NodeIndex, api.NodeSlice, api.NodeAssert, api.NodeFuncLit, api.NodeComposite, api.NodeNumber, api.NodeChar, api.NodeText:
					if x.Type(file, n) < 0 {
						t.Fatalf("12.11: node %d of kind %d has no type", n, k.Kind)
					}
				}
			}
		}
	}
}

// TestConstFollow: 12.14: constants of operators are what consts makes of their kids.
func TestConstFollow(t *testing.T) {
	asked := 0
	for _, x := range rightOnes(t, 24, 60) {
		for file := range x.p.Files() {
			tr, l := x.p.Tree(file), x.p.Tokens(file)
			for n, k := range tr.Nodes {
				got, ok := x.Const(file, n)
				if !ok || k.Kind != api.NodeBinary && k.Kind != api.NodeSign {
					continue
				}
				asked++
				kids := tree.Kids(tr, n)
				op := l[tree.Own(l, tr, n)[0]].Kind
				a, isConst := x.Const(file, kids[0])
				want, why := consts.Unary(op, a)
				if k.Kind == api.NodeBinary {
					b, isToo := x.Const(file, kids[1])
					isConst = isConst && isToo
					want, why = consts.Binary(op, a, b)
				}
				if !isConst || why != api.OK || got != want {
					t.Fatalf("12.14: %v, not %v", got, want)
				}
			}
		}
	}
	if asked < 100 {
		t.Errorf("only %d", asked)
	}
}

// isFixed tells whether a name keeps its meaning only if it is not changed.
func isFixed(word string) bool {
	return slices.Contains([]string{"_", "main", "init", "bool", "int", "string", "true", "false", "iota", "nil", "append", "copy", "delete", "len", "make", "new", "panic", "print"}, word)
}

// respelt are a program's files with all names but the universe's changed one for one.
func respelt(x program) []api.File {
	var out []api.File
	for i, f := range x.p.Files() {
		var b strings.Builder
		for _, k := range x.p.Tokens(i) {
			word := f.Text[k.From:k.To]
			if k.Kind == api.TokName && !isFixed(word) {
				word = "z" + word
			}
			b.WriteString(word)
		}
		out = append(out, api.File{Name: f.Name, Text: b.String()})
	}
	return out
}

// all is all that is known of a program, as text, the names of types without a z.
func (x program) all() string {
	var b strings.Builder
	for file := range x.p.Files() {
		for n := range x.p.Tree(file).Nodes {
			for _, id := range x.Types(file, n) {
				b.WriteString(strings.ReplaceAll(x.t.Show(id), ".z", ".") + " ")
			}
			v, ok := x.Const(file, n)
			fmt.Fprintln(&b, x.Type(file, n) < 0, consts.Show(v), ok)
		}
		for k := range x.p.Tokens(file) {
			at := api.Place{File: file, Token: k}
			if l := x.Members(at); len(l) > 0 {
				fmt.Fprintln(&b, k, l, x.Way(at))
			}
		}
	}
	fmt.Fprintln(&b, x.Start())
	return b.String()
}

// TestNamesDoNotMatter: 12.12.
func TestNamesDoNotMatter(t *testing.T) {
	for _, x := range rightOnes(t, 22, 50) {
		y := checked(t, respelt(x))
		if a, b := x.all(), y.all(); a != b {
			t.Fatalf("12.12: %.2000q", x.p.Files())
		}
	}
}

// TestFilesInAnyOrder: 12.13.
func TestFilesInAnyOrder(t *testing.T) {
	r := chance(23)
	right := 0
	for range 150 {
		given := someFiles(r, pick(r, 10000, 100))
		_, f := opened(t, given)
		_, g := opened(t, []api.File{given[1], given[0]})
		if (f.Why == api.OK) != (g.Why == api.OK) {
			t.Fatalf("12.13: %v and %v: %.2000q", f, g, given)
		}
		if f.Why == api.OK {
			right++
		}
	}
	if right < 20 {
		t.Errorf("only %d without faults", right)
	}
}

// TestStartFollow: 12.15: each unit once, each behind what it needs by name.
func TestStartFollow(t *testing.T) {
	for _, x := range rightOnes(t, 25, 60) {
		var want []api.Place
		place := map[int]int{} // by declaration
		start := x.Start()
		for d, decl := range x.decls {
			if at := slices.Index(start, decl.At); at >= 0 && decl.Kind == api.DeclVar {
				place[d] = at
			}
		}
		for file := range x.p.Files() {
			tr := x.p.Tree(file)
			for _, n := range tree.Kids(tr, tree.Kid(tr, 0, 2)) {
				if tr.Nodes[n].Kind != api.NodeVar {
					continue
				}
				name := tr.Nodes[n+3].First // Var, VarSpec, list, Name
				want = append(want, api.Place{File: file, Token: name})
				for k := n + 4; k < n+tr.Nodes[n].Size; k++ {
					d := x.s.Bound(api.Place{File: file, Token: tr.Nodes[k].First})
					if at, ok := place[d]; ok && tr.Nodes[k].Kind == api.NodeName && at >= slices.Index(start, want[len(want)-1]) {
						t.Fatalf("12.15: %s is made ahead of %s: %.2000q", x.p.Word(want[len(want)-1]), x.decls[d].Name, x.p.Files())
					}
				}
			}
		}
		if got := slices.Clone(start); len(got) != len(want) || len(slices.Compact(got)) != len(want) || slices.ContainsFunc(want, func(p api.Place) bool { return !slices.Contains(start, p) }) {
			t.Fatalf("12.15: %v, not %v", start, want)
		}
	}
}

// TestApart: 12.2, 12.10: nil, what does not belong together, and numbers of nothing.
func TestApart(t *testing.T) {
	given := files("a: package main; type T struct { a int }; var v = T{a: 1}.a; func main() { print(v) }")
	x, y := checked(t, given), checked(t, given)
	for _, z := range []program{{}, {p: x.p, s: x.s}, {p: x.p, t: x.t}, {s: x.s, t: x.t}, {p: y.p, s: x.s, t: x.t}, {p: x.p, s: y.s, t: x.t}, {p: x.p, s: x.s, t: y.t}, {p: x.p, s: y.s, t: y.t}} {
		if c, f := check.Check(z.p, z.s, z.t); c != nil || f != (api.Fault{Why: api.ErrArg}) {
			t.Errorf("12.2: %v", f)
		}
	}
	var none *check.Checks
	for _, c := range []*check.Checks{none, x.Checks} {
		for _, n := range []int{-1, math.MinInt, math.MaxInt, 1 << 20} {
			for _, file := range []int{0, n} {
				if v, ok := c.Const(file, n); c.Type(file, n) != -1 || len(c.Types(file, n)) != 0 || ok || v != (api.Val{}) || len(c.Members(api.Place{File: file, Token: n})) != 0 || len(c.Way(api.Place{File: file, Token: n})) != 0 {
					t.Errorf("12.10: file %d, node %d", file, n)
				}
			}
		}
	}
	for n := range x.p.Tree(0).Nodes {
		if v, ok := none.Const(0, n); none.Type(0, n) != -1 || len(none.Types(0, n)) != 0 || ok || v != (api.Val{}) {
			t.Errorf("12.10: nil: node %d", n)
		}
		if x.Type(1, n) != -1 {
			t.Errorf("P7: file 1, node %d", n)
		}
	}
	if len(none.Start()) != 0 || len(none.Members(x.where("a", 3))) != 0 || len(none.Way(x.where("a", 3))) != 0 {
		t.Error("12.10: nil")
	}
	if _, f := check.Check(x.p, x.s, x.t); f != (api.Fault{}) {
		t.Errorf("P5: asked again: %v", f)
	}
}

// spoil writes into a list and its spare room.
func spoil[T any](l []T, with T) {
	l = l[:cap(l)]
	for i := range l {
		l[i] = with
	}
}

// TestMemory: 12.10: what is answered is new memory.
func TestMemory(t *testing.T) {
	x := checked(t, files("a: package main; type I interface { m() }; type A struct { B }; type B struct { I }; var a A; func f() (int, string, A) { return 1, \"\", a }; func main() { a.m(); f(); _ = A{B: B{}} }; var b, c = 1, a"))
	before := x.all()
	for range 2 {
		spoil(x.Start(), api.Place{File: 7})
		for n := range x.p.Tree(0).Nodes {
			spoil(x.Types(0, n), 99)
		}
		for k := range x.p.Tokens(0) {
			spoil(x.Members(api.Place{Token: k}), 99)
			spoil(x.Way(api.Place{Token: k}), 99)
		}
		if x.all() != before {
			t.Fatal("12.10: what was handed out is held")
		}
	}
}

// TestTogether: 12.10: several may ask at once, and check one program at once.
func TestTogether(t *testing.T) {
	x := rightOnes(t, 26, 1)[0]
	want := x.all()
	var done sync.WaitGroup
	for range 4 {
		done.Go(func() {
			c, f := check.Check(x.p, x.s, x.t)
			if y := (program{c, x.p, x.s, x.t, x.decls}); f != (api.Fault{}) || y.all() != want || x.all() != want {
				t.Error("12.10: another answer")
			}
		})
	}
	done.Wait()
}

// TestLarge: work grows with the program, not with its square.
func TestLarge(t *testing.T) {
	many := func(s string, n int) string { return strings.Repeat(s, n) }
	numbered := func(n int, write func(i int) string) string {
		var b strings.Builder
		for i := range n {
			b.WriteString(write(i))
		}
		return b.String()
	}
	for what, text := range map[string]string{
		"functions":  many("func _(){};", 8000),
		"variables":  numbered(5000, func(i int) string { return fmt.Sprintf("var v%d=v%d;", i, i+1) }) + "var v5000=1;",
		"constants":  "const(c0=iota;" + numbered(20000, func(i int) string { return fmt.Sprintf("c%d;", i+1) }) + ");",
		"needs":      numbered(3000, func(i int) string { return fmt.Sprintf("func f%d(){f%d()};", i, i+1) }) + "func f3000(){f0()};",
		"statements": "func _(){a:=1;" + many("a=a+1;", 8000) + "};",
		"members":    "type S struct{a int};func _(s S){" + many("s.a=s.a;", 5000) + "};",
		"embedded":   numbered(1500, func(i int) string { return fmt.Sprintf("type T%d struct{T%d};", i, i+1) }) + "type T1500 struct{a int};func _(t T0){" + many("t.a=1;", 1500) + "};",
		"methods":    "type S int;func _(s S){" + many("s.m0();", 3000) + "};" + numbered(2000, func(i int) string { return fmt.Sprintf("func(S)m%d(){};", i) }),
		"faces":      "type I interface{" + numbered(3000, func(i int) string { return fmt.Sprintf("m%d();", i) }) + "};func _(i,j I){" + many("i=j;", 3000) + "i.m1()};",
		"wide types": "type I interface{" + numbered(2000, func(i int) string { return fmt.Sprintf("m%d();", i) }) + "};func _(i I,s S,t T){" + many("i=s;_=i.(S);", 3000) + "};type S struct{T};type T int;" + numbered(2000, func(i int) string { return fmt.Sprintf("func(T)m%d(){};", i) }),
		"readings":   "const(c0=1" + many("+(1", 100) + many(")", 100) + many("*(2+3)", 20) + ";" + numbered(12000, func(i int) string { return fmt.Sprintf("c%d;", i+1) }) + ");",
		"counts":     "const(c,d=1" + many(",1", 20000) + ";" + numbered(5000, func(i int) string { return fmt.Sprintf("c%d;", i) }) + ");",
		"cases":      "func _(i int){switch i{" + numbered(9000, func(i int) string { return fmt.Sprintf("case %d:", i) }) + "}};",
		"elements":   "var _=[]int{" + many("1,", 30000) + "};",
		"keys":       "var _=map[int]int{" + numbered(10000, func(i int) string { return fmt.Sprintf("%d:1,", i) }) + "};",
		"fields":     "type S struct{" + numbered(5000, func(i int) string { return fmt.Sprintf("a%d int;", i) }) + "};var _=S{" + numbered(5000, func(i int) string { return fmt.Sprintf("a%d:1,", i) }) + "};",
		"literals":   "func f(){};func _(){" + many("_=func(){f()};", 4000) + "};",
		"matches":    "type I interface{};func _(i I){switch x:=i.(type){" + numbered(4000, func(i int) string { return fmt.Sprintf("case T%d:_=x;", i) }) + "}};" + numbered(4000, func(i int) string { return fmt.Sprintf("type T%d int;", i) }),
	} {
		text = "package main;" + text + "func main(){}"
		want := api.Fault{}
		if what == "counts" {
			want = api.Fault{Why: api.ErrCount, At: strings.Index(text, "c,d")}
		}
		if _, f := opened(t, []api.File{{Name: "a", Text: text}}); f != want {
			t.Errorf("many %s: %v", what, f)
		}
	}
}

// TestManyPackages: as many files as may be, each a package that imports all ahead of it.
func TestManyPackages(t *testing.T) {
	var given []api.File
	for i := range api.MaxFiles {
		text := fmt.Sprintf("package p%d\n", i)
		if i == api.MaxFiles-1 {
			text = "package main\n"
		}
		for k := range i {
			text += fmt.Sprintf("import \"p%d\"\n", k)
		}
		text += "var V = 1"
		for k := range i {
			text += fmt.Sprintf(" + p%d.V", k)
		}
		text += strings.Repeat("\nfunc _(a int) int { for { a++ } }", 10)
		if i == api.MaxFiles-1 {
			text += "\nfunc main() { }"
		}
		given = append(given, api.File{Name: fmt.Sprintf("p%d/f", i), Text: text})
	}
	x := checked(t, given)
	if got := len(x.Start()); got != api.MaxFiles {
		t.Errorf("12.9: %d variables", got)
	}
	slices.Reverse(given)
	if got := len(checked(t, given).Start()); got != api.MaxFiles {
		t.Errorf("12.9: %d variables", got)
	}
}
