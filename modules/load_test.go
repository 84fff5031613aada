package modules_test

import (
	"fmt"
	"math/rand/v2"
	"slices"
	"strings"
	"testing"

	"moniker/api"
	"moniker/modules"
)

func refused(t *testing.T, given []api.File, why api.Errno, file, at int) {
	t.Helper()
	p, f := modules.Load(given)
	if want := (api.Fault{Why: why, File: file, At: at}); p != nil || f != want {
		if len(fmt.Sprint(given)) > 1000 {
			given = nil
		}
		t.Errorf("M1: %q: %v, %v; not %v", given, p != nil, f, want)
	}
}

func TestExamples(t *testing.T) {
	refused(t, nil, api.ErrArg, 0, 0)
	refused(t, []api.File{}, api.ErrArg, 0, 0)
	refused(t, files("a: package main", "a: package main"), api.ErrTwice, 1, 0)
	refused(t, files("m/a: package main", "m/b: package other"), api.ErrPackage, 1, 8)
	refused(t, files("a: package main\nimport \"x\""), api.ErrImport, 0, 20)
	refused(t, files("a: package main\nimport \"\""), api.ErrImport, 0, 20)
	refused(t, files("a: package main\nimport _ \"x\"", "x/b: package x"), api.ErrBlank, 0, 20)
	refused(t, files("a: package main\nimport \"x\"", "x/b: package x\nimport \"y\"", "y/c: package y\nimport \"x\""), api.ErrCycle, 1, 17)
	refused(t, files("x/b: package x"), api.ErrMain, 0, 0)
	p := loaded(t, files("a: package main\nimport \"x/y\"", "x/y/b: package z", "x/y/c: package z"))
	want := []api.Pack{{Path: "", Name: "main", Files: []int{0}, Imports: []int{1}}, {Path: "x/y", Name: "z", Files: []int{1, 2}}}
	if got := p.Packs(); !samePacks(got, want) {
		t.Errorf("M3: %v", got)
	}
	if got := p.Order(); !slices.Equal(got, []int{1, 0}) {
		t.Errorf("M3: %v", got)
	}
	for n, node := range p.Tree(0).Nodes {
		if got := p.Imported(0, n); (node.Kind == api.NodeImportSpec) != (got == 1) || node.Kind != api.NodeImportSpec && got != -1 {
			t.Errorf("M4: node %d: %d", n, got)
		}
	}
	for name, want := range map[string]string{"x/y/b": "x/y", "b": "", "/b": "", "x/": "x", "": "", "/": "", "//": "/", "a//b": "a/", "\xff/\x00": "\xff", "x/y/": "x/y", "\\b": ""} {
		if got := modules.Folder(name); got != want {
			t.Errorf("M6: Folder(%q) = %q", name, got)
		}
	}
}

// TestFaults: each fault by itself, at its place.
func TestFaults(t *testing.T) {
	for _, c := range []struct {
		given    []api.File
		why      api.Errno
		file, at int
	}{
		{files("a: package main", "b: package main", "c: package main", "b: package main", "a: package main"), api.ErrTwice, 3, 0},
		{files("a: #", "a: #"), api.ErrTwice, 1, 0}, {files(": package main", ": package main"), api.ErrTwice, 1, 0},
		{files("a: package main #"), api.ErrByte, 0, 13}, {files("a: package main; var x = 1x"), api.ErrNumber, 0, 22}, {files("a: package main", "b: 'ab'"), api.ErrQuote, 1, 0}, {files("a: package main", "b: package main /*"), api.ErrNote, 1, 13}, {files("a: package " + strings.Repeat("m", 201)), api.ErrName, 0, 8},
		{files("a: "), api.ErrParse, 0, 0}, {files("a: package main", "b: package main; func"), api.ErrParse, 1, 18}, {files("a: package main; import x"), api.ErrParse, 0, 22}, {files("a: package main; import . \"x\""), api.ErrParse, 0, 21}, {files("a: package main; import 'x'"), api.ErrParse, 0, 21},
		{files("a: package main; var x = " + strings.Repeat("(", 300) + "1" + strings.Repeat(")", 300)), api.ErrDeep, 0, 22 + 251},
		{files("a: package main; func", "b: #"), api.ErrParse, 0, 18}, {files("a: #", "b: package main; func"), api.ErrByte, 0, 0}, {files("a: func #"), api.ErrByte, 0, 5},
		{files("a: package _"), api.ErrPackage, 0, 8}, {files("a: package main", "b: package _"), api.ErrPackage, 1, 8}, {files("x/a: package x", "y/a: package y", "y/b: package x"), api.ErrPackage, 2, 8}, {files("a: package main", "b: // c\npackage Main"), api.ErrPackage, 1, 13}, {files("x/a: package x", "x/b: package y", "x/c: package _"), api.ErrPackage, 1, 8}, {files("x/a: package _", "x/b: package _"), api.ErrPackage, 0, 8},
		{files("a: package main; import \"a\""), api.ErrImport, 0, 21}, {files("x/a: package main; import \"x\""), api.ErrImport, 0, 21}, {files("x/a: package main; import \"x/a\""), api.ErrImport, 0, 21}, {files("a: package main; import \"x\"", "x/y/b: package y"), api.ErrImport, 0, 21}, {files("a: package main; import \"X\"", "x/b: package x"), api.ErrImport, 0, 21}, {files("a: package main; import \"x/\"", "x/b: package x"), api.ErrImport, 0, 21}, {files("a: package main; import \"./x\"", "x/b: package x"), api.ErrImport, 0, 21},
		{files("a: package main; import (\"x\"; z \"y\")", "x/b: package x"), api.ErrImport, 0, 29}, {files("a: package main; import \"x\"; import _ \"y\"", "x/b: package x"), api.ErrImport, 0, 35}, {files("a: package main; import _ \"\""), api.ErrImport, 0, 23}, {files("a: package main; import (_ \"x\"; \"y\")", "x/b: package x"), api.ErrBlank, 0, 22}, {files("a: package main; import (\"y\"; _ \"x\")", "x/b: package x"), api.ErrImport, 0, 22}, {files("a: package main; import (p \"x\"; p \"x\"; _ `x`)", "x/b: package x"), api.ErrBlank, 0, 36},
		{files("a: package main; import _ \"x\"", "x/b: package x; import \"z\""), api.ErrBlank, 0, 21}, {files("x/b: package x; import \"z\"", "a: package main; import _ \"x\""), api.ErrImport, 0, 18},
		{files("a: package main; import \"x\"", "x/b: package x; import \"\""), api.ErrCycle, 0, 21}, {files("y/a: package y; import \"x\"", "x/b: package x; import \"z\"; import \"w\"", "z/a: package main", "w/a: package w", "w/b: package w; import (\"z\"; \"x\")"), api.ErrCycle, 1, 30}, {files("a: package main; import (\"w\"; \"x\"; \"y\")", "w/a: package w", "x/a: package x; import \"w\"; import \"y\"", "y/a: package y; import \"z\"", "z/a: package z", "z/b: package z; import \"x\""), api.ErrCycle, 2, 30},
		{files("x/a: package x", "y/a: package Main"), api.ErrMain, 0, 0}, {files("a: package main", "x/a: package x", "y/a: package main"), api.ErrMain, 0, 0}, {files("x/a: package main; import \"y\"", "y/a: package main"), api.ErrMain, 0, 0},
	} {
		refused(t, c.given, c.why, c.file, c.at)
	}
}

// TestTaken: what may look like a fault and is none.
func TestTaken(t *testing.T) {
	for _, given := range [][]api.File{
		files("a: package main"), files(": package main"), files("/: package main"), files("x/y/z/a: package main"), files("a: package main", "A: package main", "a/: package b", "a/a: package b"),
		files("a: package main; import (\"x\"; \"x\"; y \"x\"; main \"x\"; x `x`)", "x/b: package x"), files("a: package main; import \"x\"", "b: package main; import \"x\"", "x/b: package x"), files("x/a: package x", "x/y/a: package x; import \"x\"", "z/a: package main; import z \"x/y\""),
		files("a: package main; import ()"), files("x/a: package main; import \"\"", "a: package none"), files("x/a: package main; import `\r`", "a: package none"), files("\xff/a: package x", "a: package main; import \"\\xff\""), files("a: package main; import m \"m\"", "m/a: package p; var main = _"),
	} {
		loaded(t, given)
	}
}

// ills are ways in which a program may be wrong, those ahead that are told ahead.
func ills() [][]api.File {
	many := make([]api.File, api.MaxFiles)
	for i := range many {
		many[i] = api.File{Name: fmt.Sprint("many/", i), Text: "package many"}
	}
	return [][]api.File{
		many, files("twice/a: package twice", "twice/a: package twice"), files("piece/a: #"), files("package/a: package a", "package/b: package b"),
		files("import/a: package a; import \"\\x00\""), files("cycle/a: package a; import \"round\"", "round/a: package b; import \"cycle\""), files("main/a: package main"),
	}
}

// TestFirstFault: of two faults the one that 0.4 names first is told, whichever file comes first.
func TestFirstFault(t *testing.T) {
	whys := []api.Errno{api.ErrMany, api.ErrTwice, api.ErrByte, api.ErrPackage, api.ErrImport, api.ErrCycle, api.ErrMain}
	base := files("a: package main")
	for i, first := range ills() {
		for j, second := range ills() {
			if _, f := modules.Load(slices.Concat(base, second, first)); f.Why != whys[min(i, j)] && i != j {
				t.Errorf("M7: %d and %d: %v", whys[i], whys[j], f)
			}
		}
		if _, f := modules.Load(slices.Concat(base, first)); f.Why != whys[i] {
			t.Errorf("M7: %d: %v", whys[i], f)
		}
	}
}

func TestManyFiles(t *testing.T) {
	many := func(n int) []api.File {
		var out []api.File
		for i := range n {
			out = append(out, api.File{Name: fmt.Sprint(i, "/a"), Text: "package p"})
		}
		out[n-1].Text = "package main"
		for i := range n - 1 {
			out[n-1].Text += fmt.Sprintf("\nimport \"%d\"", i)
		}
		return out
	}
	p := loaded(t, many(api.MaxFiles))
	if l := p.Packs(); len(l) != 64 || len(l[63].Imports) != 63 || p.Order()[63] != 63 {
		t.Error("M3: 64 packages")
	}
	refused(t, many(api.MaxFiles+1), api.ErrMany, 64, 0)
	refused(t, make([]api.File, api.MaxFiles+1), api.ErrMany, 64, 0)
	refused(t, make([]api.File, 1000), api.ErrMany, 64, 0)
	refused(t, make([]api.File, api.MaxFiles), api.ErrTwice, 1, 0)
	one := many(api.MaxFiles)
	for i := range one {
		one[i].Name = fmt.Sprint(i)
		one[i].Text = "package main"
	}
	if l := loaded(t, one).Packs(); len(l) != 1 || len(l[0].Files) != 64 {
		t.Error("M3: 64 files of one package", l)
	}
}

// sized is a file of just so many pieces.
func sized(name string, pieces int) api.File {
	return api.File{Name: name, Text: strings.Repeat("/**/", pieces-4) + "package main"}
}

func TestManyPieces(t *testing.T) {
	loaded(t, []api.File{sized("a", api.MaxPieces)})
	refused(t, []api.File{sized("a", api.MaxPieces+1)}, api.ErrMany, 0, 0)
	loaded(t, []api.File{sized("a", 5), sized("b", 20000), sized("c", api.MaxPieces-20005)})
	refused(t, []api.File{sized("a", 5), sized("b", 20000), sized("c", api.MaxPieces-20004)}, api.ErrMany, 2, 0)
	refused(t, []api.File{sized("a", api.MaxPieces), sized("b", 4), sized("c", 4)}, api.ErrMany, 1, 0)
	// A file behind the one that passes the limit is not looked at, the one that passes it is not parsed; what stands ahead is.
	refused(t, []api.File{sized("a", api.MaxPieces+1), {Name: "b", Text: "#"}}, api.ErrMany, 0, 0)
	over := sized("a", api.MaxPieces+1)
	refused(t, []api.File{{Name: "a", Text: over.Text + " func"}}, api.ErrMany, 0, 0)
	refused(t, []api.File{{Name: "a", Text: over.Text + " #"}}, api.ErrByte, 0, len(over.Text)+1)
	refused(t, []api.File{{Name: "b", Text: "func"}, over}, api.ErrParse, 0, 0)
	refused(t, []api.File{{Name: "b", Text: "package _"}, over}, api.ErrMany, 1, 0)
	// No limit counts bytes.
	loaded(t, []api.File{{Name: strings.Repeat("n", 1<<20), Text: "package main //" + strings.Repeat("x", 1<<22)}})
}

// TestWords: Load against 0.4's words, over files by chance (M1 to M7, M10).
func TestWords(t *testing.T) {
	r := chance(1)
	whys := map[api.Errno]int{}
	for range 2500 {
		given := someFiles(r)
		p, f := modules.Load(given)
		want := wordLoad(given)
		whys[f.Why]++
		if f != want.fault || (p == nil) != (f != api.Fault{}) {
			t.Fatalf("M1: %q: %v, not %v", given, f, want.fault)
		}
		if p == nil {
			continue
		}
		if got := p.Packs(); !samePacks(got, want.packs) {
			t.Fatalf("M3: %q: %v, not %v", given, got, want.packs)
		}
		if got := p.Order(); !slices.Equal(got, want.order) {
			t.Fatalf("M3: %q: %v, not %v", given, got, want.order)
		}
		checkFiles(t, p, given, want)
	}
	for _, why := range []api.Errno{api.ErrTwice, api.ErrByte, api.ErrParse, api.ErrPackage, api.ErrImport, api.ErrBlank, api.ErrCycle, api.ErrMain} {
		if whys[why] < 10 {
			t.Errorf("only %d with fault %d", whys[why], why)
		}
	}
	if whys[api.OK] < 600 {
		t.Errorf("only %d without a fault", whys[api.OK])
	}
}

// TestOrder: no list in which each stands behind what it imports is less than Order (M8).
func TestOrder(t *testing.T) {
	r := chance(2)
	for range 300 {
		given := someImports(r, 1+r.IntN(6))
		p := loaded(t, given)
		packs := p.Packs()
		var least []int
		var rows func(row []int)
		rows = func(row []int) { // all rows, the least first
			if len(least) > 0 {
				return
			}
			if len(row) == len(packs) {
				least = slices.Clone(row)
			}
			for n, k := range packs {
				if !slices.Contains(row, n) && !slices.ContainsFunc(k.Imports, func(m int) bool { return !slices.Contains(row, m) }) {
					rows(append(slices.Clone(row), n))
				}
			}
		}
		rows(nil)
		if got := p.Order(); !slices.Equal(got, least) {
			t.Fatalf("M8: %q: %v, not %v", given, got, least)
		}
	}
}

// someImports are packages of which each may import those with a lower letter, in any order.
func someImports(r *rand.Rand, n int) []api.File {
	var out []api.File
	for i := range n {
		f := api.File{Name: string(rune('a'+i)) + "/f", Text: "package p"}
		if i == 0 {
			f.Text = "package main"
		}
		for j := range i {
			if r.IntN(3) == 0 {
				f.Text += "\nimport \"" + string(rune('a'+j)) + "\""
			}
		}
		out = append(out, f)
	}
	r.Shuffle(n, func(i, j int) { out[i], out[j] = out[j], out[i] })
	return out
}

// TestShuffled: with the files in another order there are the same packages, or none as before (M9).
func TestShuffled(t *testing.T) {
	r := chance(3)
	for range 1500 {
		given := someFiles(r)
		mixed := slices.Clone(given)
		r.Shuffle(len(mixed), func(i, j int) { mixed[i], mixed[j] = mixed[j], mixed[i] })
		p, _ := modules.Load(given)
		q, _ := modules.Load(mixed)
		if (p == nil) != (q == nil) {
			t.Fatalf("M9: %q: %t; %q: %t", given, p != nil, mixed, q != nil)
		}
		if a, b := byPath(p), byPath(q); !slices.Equal(a, b) {
			t.Fatalf("M9: %q: %q; %q", given, a, b)
		}
	}
}

// byPath are lines of a program's packages: what they are, and what they import, by paths.
func byPath(p *modules.Program) []string {
	packs := p.Packs()
	var out []string
	for _, k := range packs {
		var imports, names []string
		for _, m := range k.Imports {
			imports = append(imports, packs[m].Path)
		}
		for _, f := range k.Files {
			names = append(names, p.Files()[f].Name)
		}
		slices.Sort(imports)
		slices.Sort(names)
		out = append(out, fmt.Sprintf("%q %q %q %q", k.Path, k.Name, names, imports))
	}
	slices.Sort(out)
	return out
}
