// Package edits: lists of edits of a text: see ../../shared/DOC.md and doc/01-edits.md.
package edits

import (
	"strings"

	"moniker/api"
)

// maxSize is the greatest length that a text which is not handed in may have.
const maxSize = 1 << 62

// Valid tells what is wrong with a list of edits of a text of so many bytes.
func Valid(size int, l []api.Edit) api.Errno {
	if !isSize(size) {
		return api.ErrArg
	}
	return wrong(size, l)
}

func isSize(n int) bool { return 0 <= n && n <= maxSize }

// wrong is Valid without a bound for the size: what a list leaves of a text may be longer than any text that is handed in.
func wrong(size int, l []api.Edit) api.Errno {
	if len(l) > api.MaxEdits {
		return api.ErrMany
	}
	least := 0
next:
	for _, e := range l {
		rising := [...]int{0, e.From, e.To, size}
		for k := 1; rising[k-1] <= rising[k]; k++ {
			if k < len(rising)-1 {
				continue
			}
			if e.From < least {
				return api.ErrOrder
			}
			least = e.To + 1
			continue next
		}
		return api.ErrSpan
	}
	return api.OK
}

// Apply does the edits, all at the places of the text as it was.
func Apply(text string, l []api.Edit) (string, api.Errno) {
	if why := Valid(len(text), l); why != api.OK {
		return "", why
	}
	out := make([]byte, 0, len(text)+growth(l))
	at := 0
	for _, e := range l {
		out = append(out, text[at:e.From]...)
		out = append(out, e.Text...)
		at = e.To
	}
	return string(append(out, text[at:]...)), api.OK
}

// growth is by how much a valid list makes a text longer.
func growth(l []api.Edit) int {
	n := 0
	for _, e := range l {
		n += gain(e)
	}
	return n
}

func gain(e api.Edit) int { return len(e.Text) - (e.To - e.From) }

// Invert is the list that takes them back.
func Invert(text string, l []api.Edit) ([]api.Edit, api.Errno) {
	if why := Valid(len(text), l); why != api.OK {
		return nil, why
	}
	out := make([]api.Edit, 0, len(l))
	moved := 0
	for _, e := range l {
		from := e.From + moved
		out = append(out, api.Edit{From: from, To: from + len(e.Text), Text: strings.Clone(text[e.From:e.To])})
		moved += gain(e)
	}
	return out, api.OK
}

// Shift is where a place of the old text lies in the new one; false: within a stretch that was replaced.
func Shift(l []api.Edit, at int) (int, bool) {
	if !isSize(at) || Valid(maxSize, l) != api.OK {
		return 0, false
	}
	moved := 0
	for _, e := range l {
		if e.From < at && at < e.To {
			return 0, false
		}
		if e.To <= at {
			moved += gain(e)
		}
	}
	return at + moved, true
}

// Normal is the least list that does the same.
func Normal(text string, l []api.Edit) ([]api.Edit, api.Errno) {
	if why := Valid(len(text), l); why != api.OK {
		return nil, why
	}
	var out []api.Edit
	for _, e := range l {
		if e = trimmed(text, e); e.From < e.To || e.Text != "" {
			e.Text = strings.Clone(e.Text)
			out = append(out, e)
		}
	}
	return out, api.OK
}

// trimmed is an edit without what its stretch and its Text begin with alike, and then end with alike.
func trimmed(text string, e api.Edit) api.Edit {
	for e.From < e.To && e.Text != "" && text[e.From] == e.Text[0] {
		e.From++
		e.Text = e.Text[1:]
	}
	for e.From < e.To && e.Text != "" && text[e.To-1] == e.Text[len(e.Text)-1] {
		e.To--
		e.Text = e.Text[:len(e.Text)-1]
	}
	return e
}
