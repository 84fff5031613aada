package edits

import "moniker/api"

// laid is what an edit of the first list put into the text between: its places there, and the bytes.
type laid struct {
	from, to int
	text     string
}

// Compose is one list for a and then b.
func Compose(size int, a, b []api.Edit) ([]api.Edit, api.Errno) {
	if why := Valid(size, a); why != api.OK {
		return nil, why
	}
	if why := wrong(size+growth(a), b); why != api.OK {
		return nil, why
	}
	out := groups(layOut(a), a, b)
	if len(out) > api.MaxEdits {
		return nil, api.ErrMany
	}
	return out, api.OK
}

func layOut(a []api.Edit) []laid {
	var out []laid
	moved := 0
	for _, e := range a {
		from := e.From + moved
		out = append(out, laid{from, from + len(e.Text), e.Text})
		moved += gain(e)
	}
	return out
}

// groups makes one edit of all edits of both lists between which no byte is kept: in the text between, each of them touches or overlaps what the others of its group reach.
func groups(put []laid, a, b []api.Edit) []api.Edit {
	var out []api.Edit
	moved := 0
	for len(put) > 0 || len(b) > 0 {
		low := lowest(put, b)
		i, j, high := reach(put, b, low)
		from := low - moved
		moved += growth(a[:i])
		out = append(out, api.Edit{From: from, To: high - moved, Text: weave(put[:i], b[:j], low, high)})
		put, a, b = put[i:], a[i:], b[j:]
	}
	return out
}

// lowest is the place at which the next group begins.
func lowest(put []laid, b []api.Edit) int {
	switch {
	case len(put) == 0:
		return b[0].From
	case len(b) == 0:
		return put[0].from
	}
	return min(put[0].from, b[0].From)
}

// reach tells how many of both lists are in the group that begins at a place, and where it ends.
func reach(put []laid, b []api.Edit, low int) (i, j, high int) {
	high = low
	for {
		switch {
		case i < len(put) && put[i].from <= high:
			high = max(high, put[i].to)
			i++
		case j < len(b) && b[j].From <= high:
			high = max(high, b[j].To)
			j++
		default:
			return i, j, high
		}
	}
}

// weave is what stands in the end from low to high: what the first list put there and the second one left, with what the second one put.
func weave(put []laid, b []api.Edit, low, high int) string {
	var out []byte
	at := low
	for _, e := range b {
		out, put = takeUp(out, put, at, e.From)
		out = append(out, e.Text...)
		at = e.To
	}
	out, _ = takeUp(out, put, at, high)
	return string(out)
}

// takeUp adds what was put from a place up to another, and answers what may be asked for beyond.
func takeUp(out []byte, put []laid, from, to int) ([]byte, []laid) {
	for len(put) > 0 {
		p := put[0]
		low, high := max(p.from, from), min(p.to, to)
		if low < high {
			out = append(out, p.text[low-p.from:high-p.from]...)
		}
		if p.to > to {
			break
		}
		put = put[1:]
	}
	return out, put
}
