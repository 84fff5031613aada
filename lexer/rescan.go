package lexer

import "moniker/api"

// sight is how many bytes behind its end decide, at the most, where a piece ends: a mark looks two ahead.
const sight = 2

// Rescan is the text behind an edit and its pieces, by way of the old ones.
func Rescan(text string, l []api.Token, e api.Edit) (string, []api.Token, api.Fault) {
	if !Sound(text, l) {
		return "", nil, faultAt(api.ErrArg, 0)
	}
	if e.From < 0 || e.To < e.From || e.To > len(text) {
		return "", nil, faultAt(api.ErrSpan, 0)
	}
	done := edited(text, e)
	cut, f := again(done, withoutAutos(l), e)
	if f != (api.Fault{}) {
		return done, nil, f
	}
	return done, withAutos(done, cut), api.Fault{}
}

func edited(text string, e api.Edit) string {
	var out []byte
	out = append(out, text[:e.From]...)
	out = append(out, e.Text...)
	return string(append(out, text[e.To:]...))
}

func withoutAutos(l []api.Token) []api.Token {
	var out []api.Token
	for _, p := range l {
		if p.Kind != api.TokAuto {
			out = append(out, p)
		}
	}
	return out
}

// again cuts the new text: the old pieces ahead of what the edit can reach stand; and as soon as a piece begins behind the edit where an old one began, the old ones from there on follow, moved.
func again(text string, old []api.Token, e api.Edit) ([]api.Token, api.Fault) {
	out, at := untouched(old, e.From)
	moved := len(e.Text) - (e.To - e.From)
	rest := old
	known := func(at int) bool {
		was := at - moved
		for was >= e.To && len(rest) > 0 && rest[0].From < was {
			rest = rest[1:]
		}
		return was >= e.To && len(rest) > 0 && rest[0].From == was
	}
	cut, end, f := newScanner(text).pieces(at, known)
	if f != (api.Fault{}) {
		return nil, f
	}
	out = append(out, cut...)
	if end == len(text) {
		return out, api.Fault{}
	}
	for _, p := range rest {
		out = append(out, api.Token{Kind: p.Kind, From: p.From + moved, To: p.To + moved})
	}
	return out, api.Fault{}
}

// untouched are the pieces that an edit from a place on leaves as they are, and where they end.
func untouched(old []api.Token, from int) ([]api.Token, int) {
	var out []api.Token
	at := 0
	for _, p := range old {
		if p.To+sight > from {
			break
		}
		out = append(out, p)
		at = p.To
	}
	return out, at
}
