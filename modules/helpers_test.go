package modules_test

import (
	"math/rand/v2"
	"slices"
	"strings"
	"testing"

	"moniker/api"
	"moniker/lexer"
	"moniker/modules"
	"moniker/parser"
)

func chance(seed uint64) *rand.Rand { return rand.New(rand.NewPCG(seed, 7)) }

// files are written one a text: the name, ": ", the file's text.
func files(all ...string) []api.File {
	var out []api.File
	for _, s := range all {
		name, text, _ := strings.Cut(s, ": ")
		out = append(out, api.File{Name: name, Text: text})
	}
	return out
}

func loaded(t *testing.T, given []api.File) *modules.Program {
	t.Helper()
	p, f := modules.Load(given)
	if p == nil || f != (api.Fault{}) {
		t.Fatalf("M1: %q: %v", given, f)
	}
	return p
}

// told is what 0.4 says of some files, found out from the tokens alone, without a thought of how long it takes.
type told struct {
	fault    api.Fault
	packs    []api.Pack
	order    []int
	pack     []int
	imported []map[int]int // by file: from the place of an ImportSpec's first token to the package
}

// wordSpec is an ImportSpec: the tokens of its name (-1: none) and text.
type wordSpec struct{ name, text int }

// wordSpecs reads the Imports that stand behind the package's name and its ; .
func wordSpecs(l []api.Token) []wordSpec {
	var rest []int
	for i, p := range l {
		if p.Kind != api.TokBlanks && p.Kind != api.TokNote {
			rest = append(rest, i)
		}
	}
	rest = rest[3:]
	met := func(kinds ...api.Kind) bool {
		ok := len(rest) > 0 && slices.Contains(kinds, l[rest[0]].Kind)
		if ok {
			rest = rest[1:]
		}
		return ok
	}
	var out []wordSpec
	one := func() {
		s := wordSpec{-1, rest[0]}
		if met(api.TokName) {
			s = wordSpec{s.text, rest[0]}
		}
		rest = rest[1:]
		out = append(out, s)
	}
	for met(api.TokImport) {
		if !met(api.TokOpen) {
			one()
		} else {
			for !met(api.TokClose) {
				one()
				met(api.TokSemi, api.TokAuto)
			}
		}
		met(api.TokSemi, api.TokAuto)
	}
	return out
}

func wordFolder(name string) string {
	parts := strings.Split(name, "/")
	return strings.Join(parts[:len(parts)-1], "/")
}

func wordOf(f api.File, p api.Token) string { return f.Text[p.From:p.To] }

// wordName is the token of a package's name.
func wordName(l []api.Token) api.Token {
	return l[slices.IndexFunc(l, func(p api.Token) bool { return p.Kind == api.TokName })]
}

func wordLoad(given []api.File) told {
	at := func(why api.Errno, file, byte int) told {
		return told{fault: api.Fault{Why: why, File: file, At: byte}}
	}
	if len(given) == 0 {
		return at(api.ErrArg, 0, 0)
	}
	if len(given) > 64 {
		return at(api.ErrMany, 64, 0)
	}
	for i := range given {
		for j := range i {
			if given[i].Name == given[j].Name {
				return at(api.ErrTwice, i, 0)
			}
		}
	}
	var lists [][]api.Token
	pieces := 0
	for i, f := range given {
		l, fault := lexer.Scan(f.Text)
		if fault != (api.Fault{}) {
			return at(fault.Why, i, fault.At)
		}
		if pieces += len(l); pieces > 65536 {
			return at(api.ErrMany, i, 0)
		}
		if _, fault := parser.Parse(f.Text, l); fault != (api.Fault{}) {
			return at(fault.Why, i, fault.At)
		}
		lists = append(lists, l)
	}
	for i, f := range given {
		first := slices.IndexFunc(given, func(g api.File) bool { return wordFolder(g.Name) == wordFolder(f.Name) })
		own, same := wordName(lists[i]), wordOf(given[first], wordName(lists[first]))
		if w := wordOf(f, own); w == "_" || w != same {
			return at(api.ErrPackage, i, own.From)
		}
	}
	return wordImports(given, lists)
}

func wordImports(given []api.File, lists [][]api.Token) told {
	out := told{}
	number := func(path string) int {
		return slices.IndexFunc(out.packs, func(k api.Pack) bool { return k.Path == path })
	}
	for i, f := range given {
		n := number(wordFolder(f.Name))
		if n < 0 {
			n = len(out.packs)
			out.packs = append(out.packs, api.Pack{Path: wordFolder(f.Name), Name: wordOf(f, wordName(lists[i]))})
		}
		out.pack = append(out.pack, n)
		out.packs[n].Files = append(out.packs[n].Files, i)
	}
	needs := make([][64]bool, 64)
	for i, f := range given {
		out.imported = append(out.imported, map[int]int{})
		for _, s := range wordSpecs(lists[i]) {
			path, _ := lexer.Text(wordOf(f, lists[i][s.text]))
			n := number(path)
			if n < 0 || n == out.pack[i] {
				return told{fault: api.Fault{Why: api.ErrImport, File: i, At: lists[i][s.text].From}}
			}
			first := s.text
			if s.name >= 0 {
				first = s.name
				if wordOf(f, lists[i][s.name]) == "_" {
					return told{fault: api.Fault{Why: api.ErrBlank, File: i, At: lists[i][s.name].From}}
				}
			}
			out.imported[i][first] = n
			needs[out.pack[i]][n] = true
		}
	}
	return wordOrder(given, lists, out, needs)
}

func wordOrder(given []api.File, lists [][]api.Token, out told, needs [][64]bool) told {
	comes := slices.Clone(needs) // Floyd and Warshall's
	for k := range out.packs {
		for i := range out.packs {
			for j := range out.packs {
				comes[i][j] = comes[i][j] || comes[i][k] && comes[k][j]
			}
		}
	}
	for i, f := range given {
		for _, s := range wordSpecs(lists[i]) {
			path, _ := lexer.Text(wordOf(f, lists[i][s.text]))
			n := slices.IndexFunc(out.packs, func(k api.Pack) bool { return k.Path == path })
			if comes[n][out.pack[i]] {
				return told{fault: api.Fault{Why: api.ErrCycle, File: i, At: lists[i][s.text].From}}
			}
		}
	}
	mains := 0
	for n, k := range out.packs {
		if k.Name == "main" {
			mains++
		}
		for m := range out.packs {
			if needs[n][m] {
				out.packs[n].Imports = append(out.packs[n].Imports, m)
			}
		}
	}
	if mains != 1 {
		return told{fault: api.Fault{Why: api.ErrMain}}
	}
	for len(out.order) < len(out.packs) {
		out.order = append(out.order, slices.IndexFunc(out.packs, func(k api.Pack) bool {
			return !slices.Contains(out.order, number(out.packs, k.Path)) && !slices.ContainsFunc(k.Imports, func(m int) bool { return !slices.Contains(out.order, m) })
		}))
	}
	return out
}

// number is that of the package with a path.
func number(packs []api.Pack, path string) int {
	return slices.IndexFunc(packs, func(k api.Pack) bool { return k.Path == path })
}

func samePacks(a, b []api.Pack) bool {
	return slices.EqualFunc(a, b, func(x, y api.Pack) bool {
		return x.Path == y.Path && x.Name == y.Name && slices.Equal(x.Files, y.Files) && slices.Equal(x.Imports, y.Imports)
	})
}

// folders are some within one another, one that is named by nothing, and some that look alike.
var folders = []string{"", "x", "y", "x/y", "x/y/z", "é", "/", "x/", "a.b", " ", "X", "_"}

// spelled is a text whose value is a path, in one of many spellings.
func spelled(r *rand.Rand, path string) string {
	switch r.IntN(4) {
	case 0:
		return "`" + path + "`"
	case 1:
		return "`\r" + path + "\r`"
	case 2:
		return `"` + strings.ReplaceAll(strings.ReplaceAll(path, "x", `\x78`), "/", `\057`) + `"`
	}
	return lexer.Quote(path)
}

// someFiles are the files of a program by chance, with a fault now and then.
func someFiles(r *rand.Rand) []api.File {
	odd := func(one int) bool { return r.IntN(one) == 0 }
	places := slices.Clone(folders)
	r.Shuffle(len(places), func(i, j int) { places[i], places[j] = places[j], places[i] })
	places = places[:1+r.IntN(7)]
	var out []api.File
	for n, folder := range places {
		name := []string{"p", "q", "é", "mainly", "p"}[r.IntN(5)]
		if n == 0 || odd(40) {
			name = "main"
		}
		for i := range 1 + r.IntN(3) {
			f := api.File{Name: string(rune('a' + i)), Text: someText(r, name, places, n)}
			if folder != "" || odd(3) && !slices.Contains(places, "/") {
				f.Name = folder + "/" + f.Name
			}
			if odd(200) {
				f.Text += " #"
			}
			if odd(200) {
				f.Text += " func"
			}
			out = append(out, f)
		}
	}
	r.Shuffle(len(out), func(i, j int) { out[i], out[j] = out[j], out[i] })
	if odd(60) {
		out = append(out, out[r.IntN(len(out))])
	}
	return out
}

// someText is a file of package number n, that imports mostly those with a higher number.
func someText(r *rand.Rand, name string, places []string, n int) string {
	odd := func(one int) bool { return r.IntN(one) == 0 }
	if odd(60) {
		name = []string{"_", "other"}[r.IntN(2)]
	}
	var out strings.Builder
	out.WriteString([]string{"", "// package z\n", " /* import \"w\" */ "}[r.IntN(3)] + "package " + name)
	imports := r.IntN(4)
	if n+1 == len(places) && !odd(8) {
		imports = 0 // the last one has nothing to import that imports nothing
	}
	for range imports {
		out.WriteString([]string{"\n", ";"}[r.IntN(2)])
		many := 1
		open, end := "import ", ""
		if odd(2) {
			open, end, many = "import (", ")", r.IntN(3)
		}
		out.WriteString(open)
		for i := range many {
			if i > 0 {
				out.WriteString([]string{"; ", "\n"}[r.IntN(2)])
			}
			out.WriteString([]string{"", "", "p ", "main ", "q/**/"}[r.IntN(5)])
			if odd(60) {
				out.WriteString(" _ ")
			}
			out.WriteString(spelled(r, somePath(r, places, n)))
		}
		out.WriteString(end)
	}
	out.WriteString([]string{"", "\n", "; var x = \"y\"", "\nfunc f() { p.x(\"x\") }"}[r.IntN(4)])
	return out.String()
}

func somePath(r *rand.Rand, places []string, n int) string {
	switch {
	case r.IntN(60) == 0:
		return folders[r.IntN(len(folders))]
	case r.IntN(40) == 0 || n+1 == len(places):
		return places[r.IntN(len(places))]
	}
	return places[n+1+r.IntN(len(places)-n-1)]
}
