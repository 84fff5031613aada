package desk

import (
	"slices"

	"moniker/api"
)

// aim is of what a command's words must speak.
type aim uint8

const (
	atNothing aim = iota
	atFile        // by the first text
	atPlace       // by the first text and the first two numbers
)

// doing is how a command is done: what is told, or why nothing was done.
type doing func(*Desk, order) (string, api.Errno)

// command is what a line may be: the kinds of the words behind the first one, of what these must speak, and how it is done.
type command struct {
	words []api.Kind
	aim   aim
	do    doing
}

// commands stand by their first word.
var commands = map[string]command{}

func init() {
	const text, number, name, colon = api.TokText, api.TokNumber, api.TokName, api.TokColon
	file := []api.Kind{text}
	place := []api.Kind{text, colon, number, colon, number}
	naming := append(slices.Clone(place), name)
	commands["files"] = command{nil, atNothing, (*Desk).list}
	commands["show"] = command{file, atFile, (*Desk).show}
	commands["put"] = command{[]api.Kind{text, text}, atNothing, (*Desk).put}
	commands["drop"] = command{file, atFile, (*Desk).drop}
	commands["edit"] = command{[]api.Kind{text, number, number, text}, atFile, (*Desk).edit}
	commands["format"] = command{file, atFile, (*Desk).format}
	commands["check"] = command{nil, atNothing, asking((*Desk).check)}
	commands["run"] = command{[]api.Kind{number}, atNothing, asking((*Desk).run)}
	commands["outline"] = command{file, atFile, asking((*Desk).outline)}
	commands["find"] = command{place, atPlace, asking((*Desk).uses)}
	commands["class"] = command{place, atPlace, asking((*Desk).class)}
	commands["fresh"] = command{nil, atNothing, (*Desk).fresh}
	commands["rename"] = command{naming, atPlace, (*Desk).rename}
	commands["explain"] = command{naming, atPlace, (*Desk).explain}
	commands["undo"] = command{nil, atNothing, (*Desk).undo}
	commands["redo"] = command{nil, atNothing, (*Desk).redo}
}
