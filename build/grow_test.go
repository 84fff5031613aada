package build_test

import (
	"fmt"
	"math"
	"math/rand/v2"
	"slices"
	"strings"

	"moniker/api"
	"moniker/build"
	"moniker/lexer"
)

// base is a program of three packages that need one another.
func base() []api.File {
	return files(
		"main: package main\nimport \"x\"\nimport \"x/y\"\nfunc main() {\n\tt := x.T{a: 4}\n\tvar i x.I = t\n\tprint(y.Do(i.M(1)), t.b)\n}\n",
		"x/t: package x; type T struct { a, b int }; func (t T) M(n int) int { return t.a + n }; type I interface { M(int) int }",
		"x/y/d: package y; func Do(n int) int { m := n * 2; return m }",
	)
}

// more is the text of one more file of a package: now and then one with a fault, or one that does not go with others.
func more(r *rand.Rand, pack string) string {
	g := pick(r, "g0", "g1", "g2", "g3", "g4", "g5")
	body := pick(r,
		"func %s(k int) int { l := k; return l }",
		"type %s struct { c, d int }; func (r %[1]s) M(n int) int { return r.c * n }",
		"type %s interface { M(int) int; N() string }",
		"const %s = 1 << 3; var v%[1]s = %[1]s + 1",
		"func %s() { for i := range 3 { print(i) } }",
		"var %s = func(a, b string) string { return a + b }",
		"",
	)
	if strings.Contains(body, "%") {
		body = fmt.Sprintf(body, g)
	}
	if r.IntN(12) == 0 {
		body += pick(r, " #", " func", "; var w = zz", "; import \"x\"", " \"", "; func "+g+"() { var u int }")
	}
	return "package " + pack + pick(r, "; ", "\n", "; // some\n") + body
}

// someFile is a file of one of the three packages, mostly with that package's name.
func someFile(r *rand.Rand) api.File {
	i := r.IntN(3)
	pack := []string{"main", "x", "y"}[i]
	if r.IntN(25) == 0 {
		pack = "z"
	}
	return api.File{Name: []string{"", "x/", "x/y/"}[i] + pick(r, "p", "q", "r", "s"), Text: more(r, pack)}
}

// step is the files of the next call: mostly almost those of the last one.
func step(r *rand.Rand, last []api.File) []api.File {
	out := slices.Clone(last)
	if len(out) == 0 {
		return base()
	}
	i, k := r.IntN(len(out)), r.IntN(len(out))
	switch r.IntN(14) {
	case 0: // the same again
	case 1, 2, 3:
		out = append(out, someFile(r))
	case 4:
		out[i].Text = someFile(r).Text
	case 5:
		out[i].Text += pick(r, "\n", " ", "// x", "/* é */")
	case 6:
		out[i], out[k] = out[k], out[i]
	case 7:
		r.Shuffle(len(out), func(i, k int) { out[i], out[k] = out[k], out[i] })
	case 8:
		out[i].Text = out[k].Text
	case 9:
		out[i].Name = someFile(r).Name
	case 10:
		out = slices.Delete(out, i, i+1)
	case 11:
		out = base()
	case 12:
		out[i].Name, out[k].Name = out[k].Name, out[i].Name
	case 13:
		return unheard(r, out)
	}
	return out
}

// unheard are files that no call hears.
func unheard(r *rand.Rand, out []api.File) []api.File {
	switch r.IntN(3) {
	case 0:
		return nil
	case 1:
		return append(out, out[r.IntN(len(out))])
	}
	for i := len(out); i <= api.MaxFiles; i++ {
		out = append(out, api.File{Name: fmt.Sprint("x/", i), Text: "package x"})
	}
	return out
}

// someAsk is mostly of a byte within an identifier.
func someAsk(r *rand.Rand, given []api.File) build.Ask {
	a := build.Ask{Name: pick(r, "a", "b", "M", "N", "T", "Do", "g1", "fresh", "é", "if", "_", "main", "int", "", "x y", "\xff", "a\x00", strings.Repeat("n", api.MaxName), strings.Repeat("n", api.MaxName+1))}
	if len(given) == 0 || r.IntN(20) == 0 {
		a.File, a.Offset = pick(r, -1, 0, len(given), math.MaxInt, math.MinInt), pick(r, 0, 3)
		return a
	}
	a.File = r.IntN(len(given))
	text := given[a.File].Text
	a.Offset = r.IntN(len(text) + 1)
	pieces, _ := lexer.Scan(text)
	var names []int
	for _, p := range pieces {
		if p.Kind == api.TokName {
			names = append(names, p.From)
		}
	}
	if len(names) > 0 && r.IntN(8) > 0 {
		a.Offset = pick(r, names...)
	}
	if r.IntN(30) == 0 {
		a.Offset = pick(r, -1, math.MaxInt, math.MinInt)
	}
	return a
}

func someAsks(r *rand.Rand, given []api.File, count int) []build.Ask {
	var out []build.Ask
	for range count {
		out = append(out, someAsk(r, given))
	}
	return out
}
