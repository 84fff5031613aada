package rename_test

import (
	"slices"
	"testing"

	"moniker/api"
	"moniker/rename"
	"moniker/xref"
)

// TestRenameBy: the old files are read once, by what is handed in, and the new ones too; one whole of the old files may serve all questions.
func TestRenameBy(t *testing.T) {
	r := chance(30)
	for range 5 {
		given := someFiles(r, 4)
		w := opened(t, given)
		for range 20 {
			file, offset, name := someAsk(r, w)
			var read [][]api.File
			open := func(l []api.File) (*xref.Whole, api.Fault) {
				read = append(read, l)
				if len(read) == 1 {
					return w, api.Fault{}
				}
				return xref.Open(l)
			}
			l, e := rename.RenameBy(open, given, file, offset, name)
			want, why := rename.Rename(given, file, offset, name)
			if e != why || !slices.Equal(l, want) {
				t.Fatalf("R1: %d, %d to %s: %v, %d, not %v, %d: %.3000q", file, offset, name, l, e, want, why, given)
			}
			if len(read) > 2 || len(read) > 0 && !slices.Equal(read[0], given) {
				t.Fatalf("R1: read %d times", len(read))
			}
			if now, _ := rename.Apply(given, l); e == api.OK && !slices.Equal(read[1], now) {
				t.Fatalf("R1: other files were read: %.3000q", read[1])
			}
		}
	}
}
