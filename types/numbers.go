package types

import (
	"slices"
	"sync"

	"moniker/api"
)

// form is how a type is made.
type form uint8

const (
	isPlain    form = iota // bool, int, string
	isDeclared             // of a TypeSpec
	isPointer
	isSlice
	isMap
	isFunc
)

// nodeForms are the kinds of nodes by which types are written that are not declared.
var nodeForms = [...]api.NodeKind{isPlain: api.NodeName, isPointer: api.NodeStar, isSlice: api.NodeSliceOf, isMap: api.NodeMapOf, isFunc: api.NodeFuncOf}

// shape is what a type is made of, so that identical types have one: the declaration of a plain or declared type; what a * or [] is of; a map's key and element; the rows of a func's parameters and results.
type shape struct {
	form          form
	first, second int
}

// row is a list of types: the row ahead of its last one, and that one.
type row struct{ ahead, last int }

// noTypes is the number of the row without any.
const noTypes = 0

// numbers are those of types and of rows of types; they may be asked for, and given out, by several at once.
type numbers struct {
	lock    sync.RWMutex
	shapes  []shape
	byShape map[shape]int
	rows    []row
	byRow   map[row]int
}

func newNumbers() *numbers {
	return &numbers{byShape: map[shape]int{}, rows: []row{{}}, byRow: map[row]int{}}
}

// shape is what a type is made of; false: the number is no type's.
func (l *numbers) shape(id int) (shape, bool) {
	l.lock.RLock()
	defer l.lock.RUnlock()
	if id < 0 || id >= len(l.shapes) {
		return shape{}, false
	}
	return l.shapes[id], true
}

// number is that of the type of a shape, a new one if it has none.
func (l *numbers) number(s shape) int {
	l.lock.Lock()
	defer l.lock.Unlock()
	id, ok := l.byShape[s]
	if !ok {
		id = len(l.shapes)
		l.shapes = append(l.shapes, s)
		l.byShape[s] = id
	}
	return id
}

// made is the type of a shape whose parts are these; -1, if one of them is no type.
func (l *numbers) made(s shape, parts ...int) int {
	if !l.areTypes(parts) {
		return -1
	}
	return l.number(s)
}

func (l *numbers) pointer(id int) int { return l.made(shape{isPointer, id, 0}, id) }

func (l *numbers) slice(id int) int { return l.made(shape{isSlice, id, 0}, id) }

func (l *numbers) mapping(key, element int) int {
	return l.made(shape{isMap, key, element}, key, element)
}

func (l *numbers) function(params, results []int) int {
	if !l.areTypes(params) || !l.areTypes(results) {
		return -1
	}
	return l.number(shape{isFunc, l.row(params), l.row(results)})
}

func (l *numbers) areTypes(list []int) bool {
	l.lock.RLock()
	defer l.lock.RUnlock()
	return !slices.ContainsFunc(list, func(id int) bool { return id < 0 || id >= len(l.shapes) })
}

// row is the number of a list of types.
func (l *numbers) row(list []int) int {
	l.lock.Lock()
	defer l.lock.Unlock()
	number := noTypes
	for _, id := range list {
		r := row{number, id}
		next, ok := l.byRow[r]
		if !ok {
			next = len(l.rows)
			l.rows = append(l.rows, r)
			l.byRow[r] = next
		}
		number = next
	}
	return number
}

// list are the types of a row.
func (l *numbers) list(number int) []int {
	l.lock.RLock()
	defer l.lock.RUnlock()
	var out []int
	for ; number != noTypes; number = l.rows[number].ahead {
		out = append(out, l.rows[number].last)
	}
	slices.Reverse(out)
	return out
}

// hasName tells whether a type is declared, or one of the universe's.
func (s shape) hasName() bool { return s.form == isPlain || s.form == isDeclared }
