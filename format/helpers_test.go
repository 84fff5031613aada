package format_test

import (
	"math/rand/v2"
	"slices"
	"strings"
	"testing"

	"moniker/api"
	"moniker/lexer"
	"moniker/parser"
)

func chance(seed uint64) *rand.Rand { return rand.New(rand.NewPCG(seed, 5)) }

// shown is a text in which tabs and line feeds are written as the chapter's examples do.
func shown(s string) string { return strings.NewReplacer("⇥", "\t", "⏎", "\n").Replace(s) }

func parses(text string) bool {
	_, _, fault := parser.File(text)
	return fault == (api.Fault{})
}

func piecesOf(t *testing.T, text string) []api.Token {
	t.Helper()
	l, fault := lexer.Scan(text)
	if fault != (api.Fault{}) {
		t.Fatalf("%q: %v", text, fault)
	}
	return l
}

// notesOf are the comments of a source, without blanks at the ends of those of a line.
func notesOf(t *testing.T, text string) []string {
	t.Helper()
	var out []string
	for _, p := range piecesOf(t, text) {
		if p.Kind == api.TokNote {
			out = append(out, trimmed(text[p.From:p.To]))
		}
	}
	return out
}

func trimmed(note string) string {
	if strings.HasPrefix(note, "//") {
		return strings.TrimRight(note, " \t\r")
	}
	return note
}

// maker makes sources by chance, in one line.
type maker struct{ r *rand.Rand }

func (m maker) pick(of ...string) string { return of[m.r.IntN(len(of))] }

// some are up to so many, with a mark between two.
func (m maker) some(most int, between string, one func() string) string {
	var out []string
	for range m.r.IntN(most + 1) {
		out = append(out, one())
	}
	return strings.Join(out, between)
}

func (m maker) name() string { return m.pick("a", "b", "c", "x", "T", "_", "é") }

func (m maker) names() string { return m.name() + m.pick("", "", " , "+m.name()) }

func (m maker) typ(deep int) string {
	if deep <= 0 {
		return m.pick(m.name(), m.name()+" . "+m.name())
	}
	switch m.r.IntN(6) {
	case 0:
		return "* " + m.typ(deep-1)
	case 1:
		return "[ ] " + m.typ(deep-1)
	case 2:
		return "map [ " + m.typ(deep-1) + " ] " + m.typ(deep-1)
	case 3:
		return "func " + m.shape(deep-1)
	case 4:
		return "( " + m.typ(deep-1) + " )"
	}
	return m.typ(deep - 1)
}

func (m maker) shape(deep int) string {
	return "( " + m.some(2, " , ", func() string { return m.typ(deep) }) + " ) " + m.results(deep)
}

func (m maker) results(deep int) string {
	switch m.r.IntN(4) {
	case 0:
		return m.typ(deep)
	case 1:
		return "( " + m.typ(deep) + " )"
	case 2:
		return "( " + m.typ(deep) + " , " + m.typ(deep) + " , )"
	}
	return ""
}

func (m maker) sig(deep int) string {
	params := m.some(2, " , ", func() string { return m.names() + " " + m.typ(deep) })
	if params != "" {
		params += m.pick("", "", " ,")
	}
	return "( " + params + " ) " + m.results(deep)
}

func (m maker) operand(deep int) string {
	if deep <= 0 {
		return m.pick(m.name(), m.name(), "1", "0x1f", "'a'", `"t"`, "`r`")
	}
	x := func() string { return m.expr(deep - 1) }
	on := m.operand(deep - 1)
	switch m.r.IntN(12) {
	case 0:
		return "( " + x() + " )"
	case 1:
		return on + " . " + m.name()
	case 2:
		return on + " [ " + x() + " ]"
	case 3:
		return on + " [ " + m.pick("", x()) + " : " + m.pick("", x()) + " ]"
	case 4:
		return on + " . ( " + m.typ(deep-1) + " )"
	case 5:
		return on + " ( " + m.some(2, " , ", x) + " )"
	case 6:
		return on + " ( " + x() + m.pick(" ...", " ,", " ... ,", "") + " )"
	case 7:
		return "func " + m.sig(deep-1) + " " + m.block(deep-1)
	case 8:
		return m.pick(m.name(), "[ ] "+m.name(), "map [ "+m.name()+" ] * "+m.name(), "a . T") + " { " + m.some(2, " , ", func() string { return m.element(deep - 1) }) + " }"
	case 9:
		return m.pick("[ ] ", "map [ T ] ") + m.typ(deep-1)
	}
	return on
}

func (m maker) element(deep int) string {
	return m.pick(m.expr(deep), m.expr(deep)+" : "+m.expr(deep))
}

func (m maker) expr(deep int) string {
	if deep <= 0 {
		return m.operand(0)
	}
	switch m.r.IntN(4) {
	case 0:
		return m.expr(deep-1) + " " + m.pick("+", "-", "*", "/", "&", "&^", "<<", "==", "<=", "&&", "||", "^") + " " + m.expr(deep-1)
	case 1:
		return m.pick("+", "-", "!", "^", "*", "&") + " " + m.expr(deep-1)
	}
	return m.operand(deep)
}

// plain is an expression that may stand bare in a header.
func (m maker) plain(deep int) string {
	return m.pick("a", "1", "( "+m.expr(deep)+" )", "a == - b", "a ( "+m.expr(deep)+" )")
}

func (m maker) simple(x func() string) string {
	return m.pick(x(), x()+" "+m.pick("++", "--"), x()+" , "+x()+" = "+x()+" , "+x(), x()+" "+m.pick("+=", "&^=")+" "+x(), m.names()+" := "+x())
}

func (m maker) block(deep int) string { return "{ " + m.stmts(deep) + " }" }

func (m maker) stmts(deep int) string {
	return m.some(3, " ; ", func() string { return m.stmt(deep) }) + m.pick("", "", " ;", " ; ;")
}

func (m maker) stmt(deep int) string {
	if deep <= 0 {
		return m.pick("", "a ( )", "return", "break", "continue a", "fallthrough", "a ++", "a = b", "return a , b", "L :", "{ }")
	}
	x := func() string { return m.expr(deep - 1) }
	plain := func() string { return m.plain(deep - 1) }
	switch m.r.IntN(12) {
	case 0:
		return m.decl(deep - 1)
	case 1:
		return m.block(deep - 1)
	case 2:
		return m.branch(deep-1, plain)
	case 3:
		return "switch " + m.pick("", m.simple(plain)+" ; ", "; ") + m.pick("", plain()) + " { " + m.clauses(deep-1, x) + " }"
	case 4:
		return "switch " + m.pick("", m.simple(plain)+" ; ", "; ") + m.pick("", "x := ") + "a . ( type ) { " + m.clauses(deep-1, func() string { return m.typ(deep - 1) }) + " }"
	case 5:
		return "for " + m.pick("", plain(), m.pick("", m.simple(plain))+" ; "+m.pick("", plain())+" ; "+m.pick("", plain()+" ++", "a = "+plain())) + " " + m.block(deep-1)
	case 6:
		return "for " + m.pick("", "a = ", "a , b := ") + "range " + plain() + " " + m.block(deep-1)
	case 7:
		return m.name() + " : " + m.stmt(deep-1)
	case 8:
		return "return " + m.pick("", x(), x()+" , "+x())
	}
	return m.simple(x)
}

func (m maker) branch(deep int, plain func() string) string {
	return "if " + m.pick("", "", m.simple(plain)+" ; ", "; ") + plain() + " " + m.block(deep) + m.pick("", "", " else "+m.block(deep), " else if a "+m.block(deep))
}

func (m maker) clauses(deep int, of func() string) string {
	return m.some(3, " ", func() string {
		stmts := m.stmts(deep)
		if strings.Trim(stmts, " ;") != "" && !strings.HasSuffix(stmts, ";") {
			stmts += " ;"
		}
		return m.pick("default", "case "+of(), "case "+of()+" , "+of()) + " : " + stmts
	})
}

// group is a declaration, with ( ) or without.
func (m maker) group(word string, spec func() string) string {
	return word + " " + m.pick(spec(), "( "+m.some(3, " ; ", spec)+m.pick(" ", " ")+")")
}

func (m maker) decl(deep int) string {
	value := func() string { return m.names() + m.pick(" ", " "+m.typ(deep)) + " = " + m.expr(deep) }
	switch m.r.IntN(3) {
	case 0:
		return m.group("const", func() string { return m.pick(value(), m.names()) })
	case 1:
		return m.group("var", func() string { return m.pick(value(), m.names()+" "+m.typ(deep)) })
	}
	return m.group("type", func() string { return m.name() + " " + m.pick(m.typ(deep), m.structure(deep), m.face(deep)) })
}

func (m maker) structure(deep int) string {
	return "struct { " + m.some(3, " ; ", func() string { return m.pick(m.names()+" "+m.typ(deep), "T", "* T", "a . T", "* a . T") }) + m.pick("", " ") + " }"
}

func (m maker) face(deep int) string {
	return "interface { " + m.some(3, " ; ", func() string { return m.pick("m "+m.shape(deep), "T", "a . T") }) + " }"
}

func (m maker) function(deep int) string {
	return "func " + m.pick("", "( a T ) ", "( * T ) ", "( a * b . T ) ", "( T ) ") + m.name() + " " + m.sig(deep) + " " + m.block(deep)
}

// source is a file, if chance has it so: some do not parse.
func (m maker) source() string {
	out := "package " + m.name()
	for range m.r.IntN(3) {
		out += " ; " + m.group("import", func() string { return m.pick("", "a ", "_ ") + `"x"` })
	}
	for range m.r.IntN(4) {
		out += " ; " + m.pick(m.decl(m.r.IntN(4)), m.function(m.r.IntN(4)), m.function(3))
	}
	return out + m.pick("", " ;")
}

// strewn is a source with other blanks and comments between its tokens, and line feeds for some of its semicolons.
func (m maker) strewn(text string, calm int) string {
	l, _ := lexer.Scan(text)
	l = slices.DeleteFunc(l, func(p api.Token) bool { return p.Kind == api.TokBlanks || p.Kind == api.TokAuto })
	var out strings.Builder
	out.WriteString(m.pick("", "", m.gap(true)))
	for i, p := range l {
		word := text[p.From:p.To]
		if p.Kind == api.TokSemi && m.r.IntN(2) == 0 {
			word = m.pick("\n", "\n\n", "//e\n", "/*f\n*/", " /*g*/\n\n\n\t/*h*/ //i\r\n")
		}
		out.WriteString(word)
		safe := i+1 < len(l) && (l[i+1].Kind == api.TokEnd || l[i+1].Kind == api.TokClose || p.Kind == api.TokBegin || p.Kind == api.TokSemi || p.Kind == api.TokComma || p.Kind == api.TokColon)
		if m.r.IntN(calm) == 0 {
			out.WriteString(m.gap(safe || m.r.IntN(3) == 0))
		} else {
			out.WriteString(m.pick(" ", " ", "\t", "  ", "\r"))
		}
	}
	return out.String()
}

// gap is what may stand between two tokens, line feeds among it or not.
func (m maker) gap(feeds bool) string {
	out := " "
	for range 1 + m.r.IntN(3) {
		if feeds {
			out += m.pick("\n", "\n\n", " \n\t\n \n", "//a\n", "//b \t\r\n\n", "/*c\n\n*/", "/*d*/", " ", "\n//\n")
		} else {
			out += m.pick("/*d*/", " ", "\t", "/**/", "/*//*/")
		}
	}
	return out
}

// sources are files by chance, all of which parse.
func sources(t *testing.T, seed uint64, many int) []string {
	t.Helper()
	m := maker{chance(seed)}
	var out []string
	tries := 0
	for ; len(out) < many; tries++ {
		if tries > 40*many {
			t.Fatalf("of %d sources only %d parse", tries, len(out))
		}
		text := m.source()
		if !parses(text) {
			continue
		}
		if other := m.strewn(text, []int{2, 5, 20, 60}[m.r.IntN(4)]); parses(other) {
			out = append(out, other)
		}
	}
	return out
}
