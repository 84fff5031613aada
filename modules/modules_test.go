package modules_test

import (
	"math"
	"slices"
	"sync"
	"testing"
	"unsafe"

	"moniker/api"
	"moniker/format"
	"moniker/lexer"
	"moniker/modules"
	"moniker/parser"
)

// checkFiles asks of every file what was read of it (M2 to M5, M10).
func checkFiles(t *testing.T, p *modules.Program, given []api.File, want told) {
	t.Helper()
	if got := p.Files(); !slices.Equal(got, given) {
		t.Fatalf("M2: %q, not %q", got, given)
	}
	var all []int
	packs := p.Packs()
	for _, k := range packs {
		all = append(all, k.Files...)
	}
	if slices.Sort(all); len(all) != len(given) {
		t.Fatalf("M10: %q: %v", given, all)
	}
	for i, f := range given {
		l, x, _ := parser.File(f.Text)
		if !slices.Equal(p.Tokens(i), l) || !slices.Equal(p.Tree(i).Nodes, x.Nodes) {
			t.Fatalf("M2: %q", f)
		}
		if got := p.Pack(i); all[i] != i || got != want.pack[i] || packs[got].Path != modules.Folder(f.Name) || packs[got].Name != wordOf(f, wordName(l)) {
			t.Fatalf("M3, M10: %q: %d", f, got)
		}
		for n, node := range x.Nodes {
			if got, ok := p.Node(i, n); got != node || !ok {
				t.Fatalf("M2: %q: node %d: %v", f, n, got)
			}
			number, ok := want.imported[i][node.First]
			if !ok || node.Kind != api.NodeImportSpec {
				number = -1
			}
			if got := p.Imported(i, n); got != number {
				t.Fatalf("M4: %q: node %d: %d, not %d", f, n, got, number)
			}
		}
		for n, piece := range l {
			word := f.Text[piece.From:piece.To]
			if piece.Kind == api.TokBlanks || piece.Kind == api.TokNote || piece.Kind == api.TokAuto {
				word = ""
			}
			if got, ok := p.Token(api.Place{File: i, Token: n}); got != piece || !ok {
				t.Fatalf("M2: %q: piece %d: %v", f, n, got)
			}
			if got := p.Word(api.Place{File: i, Token: n}); got != word {
				t.Fatalf("M5: %q: piece %d: %q, not %q", f, n, got, word)
			}
		}
	}
}

// wrongNumbers are those of nothing, beside one past the last.
var wrongNumbers = []int{-1, math.MinInt, math.MaxInt, 1 << 20}

func source() []api.File {
	return files("a: package main // c\nimport z \"x\"\nimport \"y\"\nvar v = z.V", "x/b: package x; import (\"y\"; \"y\"); var V = \"s\"", "y/a: package y", "y/b: package y")
}

// TestNowhere: numbers of files, nodes and tokens that there are none of (P7).
func TestNowhere(t *testing.T) {
	p := loaded(t, source())
	for _, n := range append(wrongNumbers, 4) {
		if p.Pack(n) != -1 || p.Imported(n, 0) != -1 || len(p.Tokens(n)) != 0 || len(p.Tree(n).Nodes) != 0 || p.Word(api.Place{File: n}) != "" {
			t.Errorf("P7: file %d", n)
		}
	}
	for f := range 4 {
		for _, n := range append(wrongNumbers, len(p.Tokens(f)), len(p.Tree(f).Nodes)) {
			if n < len(p.Tokens(f)) && n >= 0 {
				continue
			}
			if p.Imported(f, n) != -1 || p.Word(api.Place{File: f, Token: n}) != "" {
				t.Errorf("P7: file %d: node or token %d", f, n)
			}
		}
	}
}

// noneAt asks that there is neither a node nor a piece of a number.
func noneAt(t *testing.T, p *modules.Program, file, number int) {
	t.Helper()
	node, isNode := p.Node(file, number)
	token, isToken := p.Token(api.Place{File: file, Token: number})
	if isNode || isToken || node != (api.Node{}) || token != (api.Token{}) {
		t.Errorf("P7: file %d: node %v, piece %v of number %d", file, node, token, number)
	}
}

// TestNoNode: single nodes and pieces that there are none of (P1, P7).
func TestNoNode(t *testing.T) {
	p := loaded(t, source())
	for _, n := range append(wrongNumbers, 4) {
		noneAt(t, p, n, 0)
		noneAt(t, nil, 0, n)
		noneAt(t, nil, n, 0)
	}
	for f := range 4 {
		for _, n := range append(wrongNumbers, max(len(p.Tokens(f)), len(p.Tree(f).Nodes))) {
			noneAt(t, p, f, n)
		}
	}
}

// TestNil: methods of a nil Program answer zero answers (P1).
func TestNil(t *testing.T) {
	var p *modules.Program
	if len(p.Files()) != 0 || len(p.Tokens(0)) != 0 || len(p.Tree(0).Nodes) != 0 || len(p.Packs()) != 0 || len(p.Order()) != 0 || p.Pack(0) != -1 || p.Imported(0, 0) != -1 || p.Word(api.Place{}) != "" {
		t.Error("P1: a nil Program answers something")
	}
}

// TestAnyBytes: Load ends for all files (P1).
func TestAnyBytes(t *testing.T) {
	r := chance(4)
	for range 2000 {
		given := someFiles(r)
		for range 1 + r.IntN(3) {
			f := &given[r.IntN(len(given))]
			b, n := []byte(f.Text), []byte(f.Name)
			if len(b) > 0 {
				b[r.IntN(len(b))] = byte(r.IntN(256))
			}
			if len(n) > 0 {
				n[r.IntN(len(n))] = []byte("/a\x00\xff")[r.IntN(4)]
			}
			f.Text, f.Name = string(b), string(n)
		}
		p, f := modules.Load(given)
		if want := wordLoad(given); f != want.fault || (p == nil) != (f != api.Fault{}) {
			t.Fatalf("M1: %q: %v, not %v", given, f, want.fault)
		}
	}
}

// TestPrinted: files in their one layout make the same packages in the same order (P16).
func TestPrinted(t *testing.T) {
	r := chance(5)
	for range 1000 {
		given := someFiles(r)
		p, f := modules.Load(given)
		if f != (api.Fault{}) {
			continue
		}
		for i := range given {
			given[i].Text, _ = format.Format(given[i].Text)
		}
		q := loaded(t, given)
		if !samePacks(p.Packs(), q.Packs()) || !slices.Equal(p.Order(), q.Order()) {
			t.Fatalf("P16: %q: %v, not %v", given, q.Packs(), p.Packs())
		}
	}
}

// story is all that a Program tells.
func story(p *modules.Program) []any {
	out := []any{p.Files(), p.Packs(), p.Order()}
	for i := range p.Files() {
		out = append(out, p.Tokens(i), p.Tree(i), p.Pack(i))
		for n := range p.Tree(i).Nodes {
			out = append(out, p.Imported(i, n))
		}
		for n := range p.Tokens(i) {
			out = append(out, p.Word(api.Place{File: i, Token: n}))
		}
	}
	return out
}

func sameStory(p *modules.Program, given []api.File) bool {
	want := wordLoad(given)
	if !slices.Equal(p.Files(), given) || !samePacks(p.Packs(), want.packs) || !slices.Equal(p.Order(), want.order) {
		return false
	}
	for i, f := range given {
		l, x, _ := parser.File(f.Text)
		if !slices.Equal(p.Tokens(i), l) || !slices.Equal(p.Tree(i).Nodes, x.Nodes) || p.Pack(i) != want.pack[i] {
			return false
		}
	}
	return true
}

// TestNotKept: a Program does not keep what it was made of, and leaves it as it was, its spare room too (P4).
func TestNotKept(t *testing.T) {
	given := slices.Grow(source(), 5)
	spare := given[:cap(given)]
	for i := len(given); i < len(spare); i++ {
		spare[i] = api.File{Name: "spare", Text: "#"}
	}
	before := slices.Clone(spare)
	// The bytes of one text can be written into behind the string's back.
	bytes := []byte(given[1].Text)
	given[1].Text = unsafe.String(&bytes[0], len(bytes))
	p := loaded(t, given)
	if !slices.Equal(before, spare) {
		t.Error("P4: files were changed")
	}
	for i := range bytes {
		bytes[i] = '#'
	}
	for i := range spare {
		spare[i] = api.File{Name: "x/y", Text: "!"}
	}
	if !sameStory(p, source()) {
		t.Error("P4: the Program changed with the files")
	}
}

// TestNewMemory: what is handed out is new each time (P4).
func TestNewMemory(t *testing.T) {
	p := loaded(t, source())
	scratch := func() {
		for _, l := range [][]int{p.Order(), p.Packs()[0].Files, p.Packs()[0].Imports, p.Packs()[2].Files} {
			for i := range l[:cap(l)] {
				l[:cap(l)][i] = 99
			}
		}
		packs, all := p.Packs(), p.Files()
		for i := range packs {
			packs[i] = api.Pack{}
		}
		for i := range all {
			all[i] = api.File{}
		}
		for f := range all {
			l, x := p.Tokens(f), p.Tree(f)
			for i := range l {
				l[i] = api.Token{}
			}
			for i := range x.Nodes {
				x.Nodes[i] = api.Node{}
			}
		}
	}
	scratch()
	if !sameStory(p, source()) {
		t.Error("P4: the Program changed with its answers")
	}
	at := func(s string) *byte { return unsafe.StringData(s) }
	place := api.Place{Token: 2}
	name := "x/y/b"
	if at(p.Files()[1].Name) == at(p.Files()[1].Name) || at(p.Files()[1].Text) == at(p.Files()[1].Text) || at(p.Packs()[1].Path) == at(p.Packs()[1].Path) || at(p.Packs()[1].Name) == at(p.Packs()[1].Name) || at(p.Word(place)) == at(p.Word(place)) || at(modules.Folder(name)) == at(name) {
		t.Error("P4: two answers share their bytes")
	}
	packs := p.Packs()
	if _ = append(packs[2].Files, 7); len(packs[2].Imports) != 0 || packs[2].Files[1] != 3 {
		t.Error("P4: two lists of one answer share room")
	}
}

// TestSameAnswers: a Program tells the same whatever it was asked, by several at once (P5); Load too.
func TestSameAnswers(t *testing.T) {
	p := loaded(t, source())
	var wait sync.WaitGroup
	for range 4 {
		wait.Go(func() {
			for range 20 {
				story(p)
				q, _ := modules.Load(source())
				if !sameStory(p, source()) || !sameStory(q, source()) {
					t.Error("P5: another story")
				}
			}
		})
	}
	wait.Wait()
}

// TestImportedOften: an ImportSpec is found among as many as there may be.
func TestImportedOften(t *testing.T) {
	text := []byte("package main;import(")
	for range 30000 {
		text = append(text, "``;"...)
	}
	text = append(text, ')')
	p := loaded(t, []api.File{{Name: "m/a", Text: string(text)}, {Name: "z", Text: "package z"}})
	l, found := p.Tree(0).Nodes, 0
	for n := range l {
		if got := p.Imported(0, n); (got == 1) != (l[n].Kind == api.NodeImportSpec) {
			t.Fatalf("M4: node %d: %d", n, got)
		} else if got == 1 {
			found++
		}
	}
	if _, f := lexer.Scan(string(text)); found != 30000 || f != (api.Fault{}) {
		t.Errorf("M4: %d specs", found)
	}
	if got := p.Packs()[0].Imports; !slices.Equal(got, []int{1}) {
		t.Errorf("M3: %v", got)
	}
}
