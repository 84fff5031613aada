package lexer

import "moniker/api"

// spellings are those of the keywords and marks, by kind.
var spellings = [api.KindCount]string{
	api.TokBreak:       "break",
	api.TokCase:        "case",
	api.TokChan:        "chan",
	api.TokConst:       "const",
	api.TokContinue:    "continue",
	api.TokDefault:     "default",
	api.TokDefer:       "defer",
	api.TokElse:        "else",
	api.TokFallthrough: "fallthrough",
	api.TokFor:         "for",
	api.TokFunc:        "func",
	api.TokGo:          "go",
	api.TokGoto:        "goto",
	api.TokIf:          "if",
	api.TokImport:      "import",
	api.TokInterface:   "interface",
	api.TokMap:         "map",
	api.TokPackage:     "package",
	api.TokRange:       "range",
	api.TokReturn:      "return",
	api.TokSelect:      "select",
	api.TokStruct:      "struct",
	api.TokSwitch:      "switch",
	api.TokType:        "type",
	api.TokVar:         "var",

	api.TokAdd:      "+",
	api.TokSub:      "-",
	api.TokMul:      "*",
	api.TokDiv:      "/",
	api.TokRem:      "%",
	api.TokAnd:      "&",
	api.TokOr:       "|",
	api.TokXor:      "^",
	api.TokShl:      "<<",
	api.TokShr:      ">>",
	api.TokAndNot:   "&^",
	api.TokAddIs:    "+=",
	api.TokSubIs:    "-=",
	api.TokMulIs:    "*=",
	api.TokDivIs:    "/=",
	api.TokRemIs:    "%=",
	api.TokAndIs:    "&=",
	api.TokOrIs:     "|=",
	api.TokXorIs:    "^=",
	api.TokShlIs:    "<<=",
	api.TokShrIs:    ">>=",
	api.TokAndNotIs: "&^=",
	api.TokBoth:     "&&",
	api.TokEither:   "||",
	api.TokArrow:    "<-",
	api.TokInc:      "++",
	api.TokDec:      "--",
	api.TokEq:       "==",
	api.TokLt:       "<",
	api.TokGt:       ">",
	api.TokIs:       "=",
	api.TokNot:      "!",
	api.TokTilde:    "~",
	api.TokNe:       "!=",
	api.TokLe:       "<=",
	api.TokGe:       ">=",
	api.TokNew:      ":=",
	api.TokDots:     "...",
	api.TokOpen:     "(",
	api.TokClose:    ")",
	api.TokOpenAt:   "[",
	api.TokCloseAt:  "]",
	api.TokBegin:    "{",
	api.TokEnd:      "}",
	api.TokComma:    ",",
	api.TokDot:      ".",
	api.TokSemi:     ";",
	api.TokColon:    ":",
}

// keywords is a map from the keywords' spellings to their kinds.
func keywords() map[string]api.Kind {
	out := map[string]api.Kind{}
	for k := api.TokBreak; k <= api.TokVar; k++ {
		out[spellings[k]] = k
	}
	return out
}

// branch is a node of the tree of marks. Its kind is that of the mark that ends there, 0 where none ends: no mark has the kind 0.
type branch struct {
	first byte
	kind  api.Kind
	next  []*branch
}

// markTree is the tree of all marks, by their bytes.
func markTree() *branch {
	root := &branch{}
	for k := api.TokAdd; k <= api.TokColon; k++ {
		at := root
		for i := range len(spellings[k]) {
			at = at.grown(spellings[k][i])
		}
		at.kind = k
	}
	return root
}

// grown is the branch of a byte, a new one if there was none.
func (b *branch) grown(c byte) *branch {
	if old := b.on(c); old != nil {
		return old
	}
	fresh := &branch{first: c}
	b.next = append(b.next, fresh)
	return fresh
}

// on is the branch of a byte; nil: there is none.
func (b *branch) on(c byte) *branch {
	for _, n := range b.next {
		if n.first == c {
			return n
		}
	}
	return nil
}

// longest is the longest mark that begins at a place: its kind and its end.
func (b *branch) longest(text string, at int) (kind api.Kind, to int) {
	for tip := b; at < len(text); at++ {
		if tip = tip.on(text[at]); tip == nil {
			break
		}
		if tip.kind != 0 {
			kind, to = tip.kind, at+1
		}
	}
	return kind, to
}
