package rename

import (
	"errors"
	"slices"
	"strconv"

	"moniker/api"
	"moniker/lexer"
)

// refusal is why a rename may not be, and where that is seen.
type refusal struct{ clash api.Clash }

func (r refusal) Error() string { return "refused: " + strconv.Itoa(int(r.clash.Why)) }

// refuse is the error that a step gives up with.
func refuse(why api.Errno, at api.Place) error { return refusal{api.Clash{Why: why, At: at}} }

// refused is the clash of which an error tells; false: it tells of none.
func refused(err error) (api.Clash, bool) {
	var r refusal
	if errors.As(err, &r) {
		return r.clash, true
	}
	return api.Clash{}, false
}

// none is the number of no file and of no piece.
const none = -1

func nowhere() api.Place { return api.Place{File: none, Token: none} }

// pieceAt is the number of the piece of a text whose bytes hold a byte.
func pieceAt(text string, at int) int {
	pieces, _ := lexer.Scan(text)
	return slices.IndexFunc(pieces, func(p api.Token) bool { return p.From <= at && at < p.To })
}
