package types_test

import (
	"slices"
	"strings"
	"testing"

	"moniker/api"
	"moniker/modules"
	"moniker/scope"
	"moniker/types"
)

// files are written one a text: the name, ": ", the file's text.
func files(all ...string) []api.File {
	var out []api.File
	for _, s := range all {
		name, text, _ := strings.Cut(s, ": ")
		out = append(out, api.File{Name: name, Text: text})
	}
	return out
}

func bound(t *testing.T, given []api.File) (*modules.Program, *scope.Scopes) {
	t.Helper()
	p, f := modules.Load(given)
	if f != (api.Fault{}) {
		t.Fatalf("Load(%.300q): %v", given, f)
	}
	s, f := scope.Resolve(p)
	if f != (api.Fault{}) {
		t.Fatalf("Resolve(%.300q): %v", given, f)
	}
	return p, s
}

// table is a table with its program, and what its declarations are.
type table struct {
	*types.Table
	p     *modules.Program
	decls []api.Decl
}

// made is the table of one file of package main with these lines.
func made(t *testing.T, lines string) table {
	t.Helper()
	return madeOf(t, files("a: package main\n"+lines))
}

func madeOf(t *testing.T, given []api.File) table {
	t.Helper()
	p, s := bound(t, given)
	x, f := types.Make(p, s)
	if x == nil || f != (api.Fault{}) {
		t.Fatalf("10.1: %.300q: %v", given, f)
	}
	return table{x, p, s.Decls()}
}

// named is the type of the first declared type of a name.
func (x table) named(name string) int {
	return x.Named(slices.IndexFunc(x.decls, func(d api.Decl) bool { return d.Kind == api.DeclType && d.Name == name }))
}

// names are those of declarations.
func (x table) names(ds []int) string {
	var out []string
	for _, d := range ds {
		out = append(out, x.decls[d].Name)
	}
	return strings.Join(out, " ")
}

// owners are declarations' names, each with that of the type whose member it is.
func (x table) owners(ds ...int) string {
	var out []string
	for _, d := range ds {
		if d < 0 {
			out = append(out, "none")
			continue
		}
		out = append(out, x.decls[x.decls[d].Of].Name+"."+x.decls[d].Name)
	}
	return strings.Join(out, " ")
}

// look is what Look tells, as text: the member, "by" and the way, or "none", "many".
func (x table) look(id int, name string) string {
	d, way, many := x.Look(id, name)
	switch {
	case many && d == -1 && len(way) == 0:
		return "many"
	case d == -1 && len(way) == 0:
		return "none"
	case many || d < 0:
		return "wrong"
	}
	if len(way) == 0 {
		return x.owners(d)
	}
	return x.owners(d) + " by " + x.owners(way...)
}

// wrong is what Make tells of some lines of a file of package main: a fault of that kind at the byte where the @ stands, which is no part of the lines.
type wrong struct {
	lines string
	why   api.Errno
}

func refuse(t *testing.T, all []wrong) {
	t.Helper()
	for _, c := range all {
		refuseFiles(t, files("a: package main; "+c.lines), c.why)
	}
}

// refuseFiles asks Make, and the words, of files of which one has the @.
func refuseFiles(t *testing.T, given []api.File, why api.Errno) {
	t.Helper()
	want := api.Fault{Why: why}
	for i, f := range given {
		if at := strings.Index(f.Text, "@"); at >= 0 {
			want.File, want.At = i, at
			given[i].Text = f.Text[:at] + f.Text[at+1:]
		}
	}
	p, s := bound(t, given)
	x, f := types.Make(p, s)
	if f != want || (x == nil) != (why != api.OK) {
		t.Errorf("10.1: %q: %v, not %v", given, f, want)
	}
	if got := wordsOf(p, s).first(); got != want {
		t.Errorf("10.1: %q: the words say %v, not %v", given, got, want)
	}
}
