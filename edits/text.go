package edits

import (
	"math"
	"strconv"

	"moniker/api"
)

// Print is a list as text.
func Print(l []api.Edit) string {
	if len(l) > api.MaxEdits {
		return ""
	}
	var out []byte
	for _, e := range l {
		out = strconv.AppendInt(out, int64(e.From), 10)
		out = append(out, ',')
		out = strconv.AppendInt(out, int64(e.To), 10)
		out = append(out, ' ')
		out = appendQuoted(out, e.Text)
		out = append(out, '\n')
	}
	return string(out)
}

func appendQuoted(out []byte, text string) []byte {
	out = append(out, '"')
	for _, c := range []byte(text) {
		switch c {
		case '"', '\\':
			out = append(out, '\\', c)
		case '\n':
			out = append(out, '\\', 'n')
		default:
			out = append(out, c)
		}
	}
	return append(out, '"')
}

// Parse reads a list from its text; the place of the fault, where it has one.
func Parse(text string) ([]api.Edit, api.Errno, int) {
	var out []api.Edit
	r := reader{text: text}
	for r.at < len(text) {
		if len(out) == api.MaxEdits {
			return nil, api.ErrMany, r.at
		}
		e, ok := r.line()
		if !ok {
			return nil, api.ErrEdit, r.at
		}
		out = append(out, e)
	}
	return out, api.OK, 0
}

// reader goes through a printed list. Where one of its methods answers false, at is the place of the fault: so a byte is passed only when something can go on with it.
type reader struct {
	text string
	at   int
}

// take passes a byte, if it is the one that stands there.
func (r *reader) take(c byte) bool {
	if r.at < len(r.text) && r.text[r.at] == c {
		r.at++
		return true
	}
	return false
}

func (r *reader) line() (api.Edit, bool) {
	from, ok := r.number()
	if !ok || !r.take(',') {
		return api.Edit{}, false
	}
	to, ok := r.number()
	if !ok || !r.take(' ') {
		return api.Edit{}, false
	}
	text, ok := r.quoted()
	if !ok || !r.take('\n') {
		return api.Edit{}, false
	}
	return api.Edit{From: from, To: to, Text: text}, true
}

// number reads a number as Print writes it. It counts below zero, as there is one more number there.
func (r *reader) number() (int, bool) {
	if r.take('0') {
		return 0, true
	}
	least, sign := -math.MaxInt, -1
	if r.take('-') {
		least, sign = math.MinInt, 1
	}
	n := 0
	for first := r.at; r.at < len(r.text); r.at++ {
		d := int(r.text[r.at]) - '0'
		if d < 0 || d > 9 {
			return sign * n, r.at > first
		}
		if r.at == first && d == 0 || n < (least+d)/10 {
			return 0, false
		}
		n = n*10 - d
	}
	return 0, false
}

// quoted reads a text between quotation marks.
func (r *reader) quoted() (string, bool) {
	if !r.take('"') {
		return "", false
	}
	var out []byte
	for !r.take('"') {
		if r.at == len(r.text) || r.text[r.at] == '\n' {
			return "", false
		}
		c := r.text[r.at]
		r.at++
		if c == '\\' {
			var ok bool
			if c, ok = r.escaped(); !ok {
				return "", false
			}
		}
		out = append(out, c)
	}
	return string(out), true
}

// escaped is the byte that stands behind a backslash.
func (r *reader) escaped() (byte, bool) {
	switch {
	case r.take('"'):
		return '"', true
	case r.take('\\'):
		return '\\', true
	case r.take('n'):
		return '\n', true
	}
	return 0, false
}
