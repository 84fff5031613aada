package desk

import (
	"moniker/api"
	"moniker/lexer"
)

// word is a token of a line, as it is spelled.
type word struct {
	kind     api.Kind
	spelling string
}

// words are the tokens of a line but for autos; false: it has a fault, and no words.
func words(line string) ([]word, bool) {
	pieces, f := lexer.Scan(line)
	var out []word
	for _, p := range pieces {
		switch p.Kind {
		case api.TokBlanks, api.TokNote, api.TokAuto:
		default:
			out = append(out, word{p.Kind, line[p.From:p.To]})
		}
	}
	return out, f.Why == api.OK
}

// isIdle tells whether a line has neither a token nor a fault.
func isIdle(line string) bool {
	l, ok := words(line)
	return ok && len(l) == 0
}

// order is what the words behind a command's first one say, by their sort, and the place of which they speak.
type order struct {
	texts        []string
	numbers      []int
	name         string
	file, offset int
}

// read is the command of a line, and what its words say; false: it is none.
func read(line string) (command, order, bool) {
	l, _ := words(line)
	if len(l) == 0 {
		return command{}, order{}, false
	}
	c, ok := commands[l[0].spelling]
	if !ok || len(c.words) != len(l)-1 {
		return command{}, order{}, false
	}
	var o order
	for i, w := range l[1:] {
		if w.kind != c.words[i] || !o.take(w) {
			return command{}, order{}, false
		}
	}
	return c, o, true
}

// take adds what a word says; false: it has no value.
func (o *order) take(w word) bool {
	var e api.Errno
	switch w.kind {
	case api.TokText:
		var text string
		text, e = lexer.Text(w.spelling)
		o.texts = append(o.texts, text)
	case api.TokNumber:
		var n int64
		n, e = lexer.Number(w.spelling)
		o.numbers = append(o.numbers, int(n))
	case api.TokName:
		o.name = w.spelling
	}
	return e == api.OK
}
