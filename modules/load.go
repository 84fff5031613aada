package modules

import (
	"slices"
	"strings"

	"moniker/api"
	"moniker/graphs"
	"moniker/lexer"
	"moniker/tree"
)

// loader makes a program step by step; each step looks for the faults of one kind, and leaves what those behind it need.
type loader struct {
	given  []api.File
	known  func(text string) *Source
	files  []file
	packs  []api.Pack
	byPath map[string]int
}

// count looks at how many files there are.
func (l *loader) count() api.Fault {
	if len(l.given) == 0 {
		return api.Fault{Why: api.ErrArg}
	}
	if len(l.given) > api.MaxFiles {
		return api.Fault{Why: api.ErrMany, File: api.MaxFiles}
	}
	return api.Fault{}
}

// compareNames looks for a file that is named as an earlier one.
func (l *loader) compareNames() api.Fault {
	for i, f := range l.given {
		same := func(earlier api.File) bool { return earlier.Name == f.Name }
		if slices.ContainsFunc(l.given[:i], same) {
			return api.Fault{Why: api.ErrTwice, File: i}
		}
	}
	return api.Fault{}
}

// read looks for the faults of file by file, as the limit of pieces is one for all of them.
func (l *loader) read() api.Fault {
	pieces := 0
	for i, given := range l.given {
		s := l.source(given.Text)
		if s.uncut.Why != api.OK {
			return api.Fault{Why: s.uncut.Why, File: i, At: s.uncut.At}
		}
		if pieces += len(s.tokens); pieces > api.MaxPieces {
			return api.Fault{Why: api.ErrMany, File: i}
		}
		if s.unparsed.Why != api.OK {
			return api.Fault{Why: s.unparsed.Why, File: i, At: s.unparsed.At}
		}
		l.files = append(l.files, file{name: strings.Clone(given.Name), Source: s})
	}
	return api.Fault{}
}

// source is what was read of a text. One that is known must be of that text: what is made of it is never a program of other files.
func (l *loader) source(text string) *Source {
	if l.known != nil {
		if s := l.known(text); s != nil && s.text == text {
			return s
		}
	}
	return Read(text)
}

// gather puts the files together into packages, by their folders.
func (l *loader) gather() api.Fault {
	for i := range l.files {
		f := &l.files[i]
		token := f.first(tree.Kid(f.tree, 0, 0))
		name, path := f.word(token), Folder(f.name)
		number, known := l.byPath[path]
		if name == "_" || known && name != l.packs[number].Name {
			return l.faultAt(api.ErrPackage, i, token)
		}
		if !known {
			number = len(l.packs)
			l.byPath[path] = number
			l.packs = append(l.packs, api.Pack{Path: path, Name: name})
		}
		f.pack = number
		l.packs[number].Files = append(l.packs[number].Files, i)
	}
	return api.Fault{}
}

// first is the number of a node's first token.
func (f *file) first(node int) int { return f.tree.Nodes[node].First }

func (l *loader) faultAt(why api.Errno, file, token int) api.Fault {
	return api.Fault{Why: why, File: file, At: l.files[file].tokens[token].From}
}

// link finds the package of each import.
func (l *loader) link() api.Fault {
	for i := range l.files {
		f := &l.files[i]
		for _, node := range f.importSpecs() {
			name, text := tree.Kid(f.tree, node, 0), f.first(tree.Kid(f.tree, node, 1))
			path, _ := lexer.Text(f.word(text))
			number, known := l.byPath[path]
			if !known || number == f.pack {
				return l.faultAt(api.ErrImport, i, text)
			}
			if f.isBlank(name) {
				return l.faultAt(api.ErrBlank, i, f.first(name))
			}
			f.specs = append(f.specs, spec{node, text, number})
			l.packs[f.pack].Imports = append(l.packs[f.pack].Imports, number)
		}
	}
	for i := range l.packs {
		slices.Sort(l.packs[i].Imports)
		l.packs[i].Imports = slices.Compact(l.packs[i].Imports)
	}
	return api.Fault{}
}

// importSpecs are the nodes of a file's ImportSpecs, from the left.
func (f *file) importSpecs() []int {
	var out []int
	for _, node := range tree.Kids(f.tree, tree.Kid(f.tree, 0, 1)) {
		out = append(out, tree.Kids(f.tree, node)...)
	}
	return out
}

func (f *file) isBlank(node int) bool {
	return f.tree.Nodes[node].Kind == api.NodeName && f.word(f.first(node)) == "_"
}

// findCycle looks for the first import from whose package its own one can be come to again.
func (l *loader) findCycle() api.Fault {
	edges := l.edges()
	reached := make([][]int, len(l.packs))
	for i := range reached {
		reached[i], _ = graphs.Reach(len(l.packs), edges, i)
	}
	for i, f := range l.files {
		for _, s := range f.specs {
			if slices.Contains(reached[s.pack], f.pack) {
				return l.faultAt(api.ErrCycle, i, s.text)
			}
		}
	}
	return api.Fault{}
}

// edges are the packages' imports, as pairs.
func (l *loader) edges() [][2]int {
	var out [][2]int
	for i, k := range l.packs {
		for _, imported := range k.Imports {
			out = append(out, [2]int{i, imported})
		}
	}
	return out
}

// findMain looks for the one package that is named main.
func (l *loader) findMain() api.Fault {
	mains := 0
	for _, k := range l.packs {
		if k.Name == "main" {
			mains++
		}
	}
	if mains != 1 {
		return api.Fault{Why: api.ErrMain}
	}
	return api.Fault{}
}

// order is that of the packages, none of which lies on a cycle any more.
func (l *loader) order() []int {
	out, _, _ := graphs.Order(len(l.packs), l.edges())
	return out
}
