package edits

import "moniker/api"

// Merge is one list for both of two that do not meet.
func Merge(size int, a, b []api.Edit) ([]api.Edit, api.Errno) {
	if why := Valid(size, a); why != api.OK {
		return nil, why
	}
	if why := Valid(size, b); why != api.OK {
		return nil, why
	}
	all := sideBySide(a, b)
	if meeting(all) {
		return nil, api.ErrOrder
	}
	out := joined(all)
	if len(out) > api.MaxEdits {
		return nil, api.ErrMany
	}
	return out, api.OK
}

// sideBySide is all edits of two valid lists by rising From, of one From the insertion first.
func sideBySide(a, b []api.Edit) []api.Edit {
	out := make([]api.Edit, 0, len(a)+len(b))
	for len(a) > 0 && len(b) > 0 {
		if ahead(b[0], a[0]) {
			out, b = append(out, b[0]), b[1:]
		} else {
			out, a = append(out, a[0]), a[1:]
		}
	}
	out = append(out, a...)
	return append(out, b...)
}

func ahead(e, other api.Edit) bool {
	return e.From < other.From || e.From == other.From && insertion(e) && !insertion(other)
}

func insertion(e api.Edit) bool { return e.From == e.To }

// meeting tells whether two meet. Neighbours are enough: what stands between two that meet begins within the first of them too, so it meets that one.
func meeting(all []api.Edit) bool {
	for i := 1; i < len(all); i++ {
		e, next := all[i-1], all[i]
		if next.From < e.To || insertion(e) && insertion(next) && e.From == next.From {
			return true
		}
	}
	return false
}

// joined makes one edit of those that touch.
func joined(all []api.Edit) []api.Edit {
	var out []api.Edit
	for i := 0; i < len(all); {
		first := i
		var text []byte
		for ; i < len(all) && (i == first || all[i].From == all[i-1].To); i++ {
			text = append(text, all[i].Text...)
		}
		out = append(out, api.Edit{From: all[first].From, To: all[i-1].To, Text: string(text)})
	}
	return out
}
