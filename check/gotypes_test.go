package check_test

import (
	"cmp"
	"go/ast"
	"go/constant"
	"go/parser"
	"go/token"
	gotypes "go/types"
	"slices"
	"strings"
	"testing"

	"moniker/api"
	"moniker/check"
	"moniker/modules"
	"moniker/scope"
	"moniker/types"
)

// goRead is Go's own reading of a program of one package.
type goRead struct {
	set   *token.FileSet
	files []*ast.File
	info  *gotypes.Info
	errs  []gotypes.Error
}

func goOf(t *testing.T, given []api.File) *goRead {
	g := &goRead{set: token.NewFileSet(), info: &gotypes.Info{Types: map[ast.Expr]gotypes.TypeAndValue{}, Defs: map[*ast.Ident]gotypes.Object{}, Uses: map[*ast.Ident]gotypes.Object{}, Selections: map[*ast.SelectorExpr]*gotypes.Selection{}}}
	for _, f := range given {
		a, err := parser.ParseFile(g.set, f.Name, f.Text, parser.SkipObjectResolution)
		if err != nil {
			t.Fatalf("%s: %v", f.Text, err)
		}
		g.files = append(g.files, a)
	}
	c := gotypes.Config{Error: func(err error) { g.errs = append(g.errs, err.(gotypes.Error)) }}
	c.Check("main", g.set, g.files, g.info)
	return g
}

// span is a stretch of a file.
type span struct{ file, from, to int }

func (g *goRead) span(n ast.Node) span {
	at, end := g.set.Position(n.Pos()), g.set.Position(n.End())
	file := slices.IndexFunc(g.files, func(f *ast.File) bool { return g.set.Position(f.Pos()).Filename == at.Filename })
	return span{file, at.Offset, end.Offset}
}

// show is a type of Go's as a table tells it.
func show(t gotypes.Type) string {
	list := func(l *gotypes.Tuple) string {
		var out []string
		for i := range l.Len() {
			out = append(out, show(l.At(i).Type()))
		}
		return strings.Join(out, ", ")
	}
	switch x := t.(type) {
	case *gotypes.Basic:
		return strings.TrimPrefix(x.Name(), "untyped ")
	case *gotypes.Named:
		return `"".` + x.Obj().Name()
	case *gotypes.Pointer:
		return "*" + show(x.Elem())
	case *gotypes.Slice:
		return "[]" + show(x.Elem())
	case *gotypes.Map:
		return "map[" + show(x.Key()) + "]" + show(x.Elem())
	case *gotypes.Signature:
		out := "func(" + list(x.Params()) + ")"
		if x.Results().Len() == 1 {
			return out + " " + list(x.Results())
		}
		if x.Results().Len() > 1 {
			return out + " (" + list(x.Results()) + ")"
		}
		return out
	}
	return t.String()
}

func isExpr(k api.NodeKind) bool {
	switch k {
	case api.NodeName, api.NodeNumber, api.NodeChar, api.NodeText, api.NodeBinary, api.NodeSign, api.NodeIndex, api.NodeSlice, api.NodeAssert, api.NodeCall, api.NodeFuncLit, api.NodeComposite, api.NodeStar, api.NodeParen, api.NodeSelect:
		return true
	}
	return false
}

// spans are the expressions of a program by where they stand.
func (x program) spans() map[span]int {
	out := map[span]int{}
	for i := range x.p.Files() {
		l := x.p.Tokens(i)
		for n, k := range x.p.Tree(i).Nodes {
			if isExpr(k.Kind) {
				out[span{i, l[k.First].From, l[k.End-1].To}] = n
			}
		}
	}
	return out
}

func goVal(v constant.Value) api.Val {
	switch v.Kind() {
	case constant.Bool:
		return api.Val{Sort: api.SortBool, Bool: constant.BoolVal(v)}
	case constant.String:
		return api.Val{Sort: api.SortText, Text: constant.StringVal(v)}
	}
	n, _ := constant.Int64Val(v)
	return api.Val{Sort: api.SortInt, Int: n}
}

// compareGo holds what is known of a program without faults against what Go knows.
func (x program) compareGo(t *testing.T, given []api.File, g *goRead) {
	spans := x.spans()
	for e, tv := range g.info.Types {
		at := g.span(e)
		n, ok := spans[at]
		if !ok || tv.IsNil() || tv.IsBuiltin() {
			continue
		}
		text := given[at.file].Text[at.from:at.to]
		if tv.IsType() || tv.IsVoid() {
			if x.Type(at.file, n) != -1 {
				t.Fatalf("12.5: %q has a type", text)
			}
			continue
		}
		val, isConst := x.Const(at.file, n)
		if isConst != (tv.Value != nil) || isConst && val != goVal(tv.Value) {
			t.Fatalf("12.7: %q: %v, in Go %v", text, val, tv.Value)
		}
		list, ok := tv.Type.(*gotypes.Tuple)
		if _, isCall := e.(*ast.CallExpr); ok && !isCall {
			tv.Type, ok = list.At(0).Type(), false // comma ok: the value's
		}
		if ok {
			var got []string
			for _, id := range x.Types(at.file, n) {
				got = append(got, x.t.Show(id))
			}
			want := show(gotypes.NewSignatureType(nil, nil, nil, list, nil, false))
			if strings.Join(got, ", ") != want[len("func("):len(want)-1] || x.Type(at.file, n) != -1 {
				t.Fatalf("12.6: %q: %v, in Go %s", text, got, want)
			}
			continue
		}
		if got := x.t.Show(x.Type(at.file, n)); !isConst && got != show(tv.Type) {
			t.Fatalf("12.5: %q in %q: %s, in Go %s", text, given[at.file].Text, got, show(tv.Type))
		}
	}
	for id, object := range g.info.Defs {
		at := g.span(id)
		n, ok := spans[at]
		want := ""
		switch o := object.(type) {
		case *gotypes.Var:
			if !o.IsField() {
				want = show(o.Type())
			}
		case *gotypes.Const:
			want = show(o.Type())
		}
		if got := x.t.Show(x.Type(at.file, n)); ok && id.Name != "_" && got != want {
			t.Fatalf("12.5: %s: %s, in Go %s", id.Name, got, want)
		}
	}
	x.compareMembers(t, given, g, spans)
}

// compareMembers holds what selectors are bound to, and the order of package variables, against Go.
func (x program) compareMembers(t *testing.T, given []api.File, g *goRead, spans map[span]int) {
	for e, s := range g.info.Selections {
		at := g.span(e.Sel)
		place := api.Place{File: at.file, Token: slices.IndexFunc(x.p.Tokens(at.file), func(k api.Token) bool { return k.From == at.from && k.To > k.From })}
		got := x.Members(place)
		made := g.set.Position(s.Obj().Pos())
		has := slices.ContainsFunc(got, func(d int) bool {
			in := x.decls[d].At
			return given[in.File].Name == made.Filename && x.p.Tokens(in.File)[in.Token].From == made.Offset
		})
		if !has || len(x.Way(place)) != len(s.Index())-1 {
			t.Fatalf("12.8: %s: %s by %v, in Go %v", e.Sel.Name, x.names(got), x.Way(place), s)
		}
	}
	var want []string
	for _, i := range g.info.InitOrder {
		want = append(want, i.Lhs[0].Name())
	}
	got := slices.DeleteFunc(strings.Fields(x.starts()), func(name string) bool { return !slices.Contains(want, name) })
	if !slices.Equal(got, want) {
		t.Fatalf("12.9: %v, in Go %v", got, want)
	}
}

// TestGo: programs by chance have faults just where Go refuses them, and their types, constants, members and order are Go's, of which MiniGo is a part here.
func TestGo(t *testing.T) {
	r := chance(1)
	right, whys := 0, map[api.Errno]int{}
	for count := range 500 {
		given := someFiles(r, pick(r, 1000, 100, 40))
		p, f := modules.Load(given)
		if f != (api.Fault{}) {
			text := given[f.File].Text
			t.Fatalf("%v: %s", f, text[max(0, f.At-100):min(len(text), f.At+20)])
		}
		s, f := scope.Resolve(p)
		if f != (api.Fault{}) {
			text := given[f.File].Text
			t.Fatalf("%v: %s", f, text[max(0, f.At-100):min(len(text), f.At+20)])
		}
		x, f := types.Make(p, s)
		if f != (api.Fault{}) {
			t.Fatal(f)
		}
		c, f := check.Check(p, s, x)
		g := goOf(t, given)
		if (f.Why == api.OK) != (len(g.errs) == 0) {
			told := ""
			if f.Why != api.OK {
				told = given[f.File].Text[max(0, f.At-150):]
			}
			t.Fatalf("program %d: %v at %.300s\nin Go: %v", count, f, told, g.errs)
		}
		whys[f.Why]++
		if f.Why == api.OK {
			right++
			program{c, p, s, x, s.Decls()}.compareGo(t, given, g)
		}
	}
	if right < 150 || len(whys) < 9 {
		t.Errorf("only %d without faults, and %v", right, whys)
	}
}

// first is the first place of a program that Go refuses by its rules of types: not by what is unused, or needs itself.
func (g *goRead) first() (span, int) {
	var out []token.Position
	for _, e := range g.errs {
		isOther := slices.ContainsFunc([]string{"declared and not used", "missing return", "cycle", "\trefers to", "\tother declaration"}, func(s string) bool { return strings.Contains(e.Msg, s) })
		if !isOther && !strings.HasPrefix(e.Msg, "\t") {
			out = append(out, g.set.Position(e.Pos))
		}
	}
	if len(out) == 0 {
		return span{file: -1}, 0
	}
	p := slices.MinFunc(out, func(a, b token.Position) int {
		return cmp.Or(cmp.Compare(a.Filename, b.Filename), cmp.Compare(a.Offset, b.Offset))
	})
	file := slices.IndexFunc(g.files, func(f *ast.File) bool { return g.set.Position(f.Pos()).Filename == p.Filename })
	return span{file: file, from: p.Offset}, p.Line
}

// TestGoPlaces: the first fault stands in the line in which Go's first one does, and where both tell it at the same thing at the same byte (12.1).
func TestGoPlaces(t *testing.T) {
	r := chance(77)
	same, other := 0, 0
	for range 800 {
		given := someFiles(r, pick(r, 100, 40, 20))
		_, f := opened(t, given)
		if f.Why == api.OK || f.Why == api.ErrCycle || f.Why == api.ErrUnused || f.Why == api.ErrReturn {
			continue
		}
		at, line := goOf(t, given).first()
		text := given[f.File].Text
		if at.file != f.File || line != 1+strings.Count(text[:f.At], "\n") {
			other++ // Go knows the types of some expressions that have a fault within
			continue
		}
		same++
		isSame := slices.Contains([]api.Errno{api.ErrPlace, api.ErrAssign, api.ErrAssert, api.ErrTwice, api.ErrConvert}, f.Why)
		if isSame && at.from != f.At {
			t.Fatalf("12.1: %v at %.40q, in Go at %.40q", f, text[f.At:], text[at.from:])
		}
	}
	if same < 200 || other*100 > same {
		t.Errorf("12.1: %d in the line of Go's, %d not", same, other)
	}
}
