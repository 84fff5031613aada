package desk

import (
	"slices"
	"strings"

	"moniker/api"
	"moniker/lexer"
)

// sheet is a file by its lines.
type sheet struct {
	name   string // as it is written in places
	size   int
	starts []int // where each line begins
}

func sheetOf(f api.File) sheet {
	out := sheet{lexer.Quote(f.Name), len(f.Text), []int{0}}
	for i := range len(f.Text) {
		if f.Text[i] == '\n' {
			out.starts = append(out.starts, i+1)
		}
	}
	return out
}

// offset is the byte of the file at a line and a byte in it, both from 1 on; false: it is not there.
func (s sheet) offset(line, at int) (int, bool) {
	if line < 1 || line > len(s.starts) || at < 1 {
		return 0, false
	}
	from, to := s.starts[line-1], s.size
	if line < len(s.starts) {
		to = s.starts[line]
	}
	if at > to-from {
		return 0, false
	}
	return from + at - 1, true
}

// place writes that of a byte of the file, or of its end.
func (s sheet) place(offset int) string {
	line, isStart := slices.BinarySearch(s.starts, offset) // how many lines begin ahead of it
	if isStart {
		line++
	}
	return strings.Join([]string{s.name, number(line), number(offset - s.starts[line-1] + 1)}, ":")
}
