package eval

import (
	"maps"
	"slices"

	"moniker/api"
	"moniker/consts"
)

// table is what a map holds.
type table struct {
	held map[api.Val]value
	keys []api.Val // rising; nil: they were not asked for since one came or went
}

func newTable() *table { return &table{held: map[api.Val]value{}} }

func (t *table) find(key api.Val) (value, bool) {
	if t == nil {
		return nil, false
	}
	v, ok := t.held[key]
	return v, ok
}

func (t *table) store(key api.Val, v value) {
	if _, ok := t.held[key]; !ok {
		t.keys = nil
	}
	t.held[key] = v
}

func (t *table) remove(key api.Val) {
	if _, ok := t.find(key); ok {
		t.keys = nil
		delete(t.held, key)
	}
}

func (t *table) length() int {
	if t == nil {
		return 0
	}
	return len(t.held)
}

// rising are the keys in their order; the list is not changed, but left, when one comes or goes.
func (t *table) rising() []api.Val {
	if t == nil {
		return nil
	}
	if t.keys == nil {
		t.keys = slices.SortedFunc(maps.Keys(t.held), compareKeys)
	}
	return t.keys
}

func compareKeys(a, b api.Val) int {
	switch {
	case consts.Less(a, b):
		return -1
	case consts.Less(b, a):
		return 1
	}
	return 0
}

// entry is the place of an element of a map, which stands at a node.
type entry struct {
	in  *table
	key api.Val
	of  *kind // the elements'
	at  api.Place
}

func (e entry) read() value {
	if v, ok := e.in.find(e.key); ok {
		return v
	}
	return e.of.zero
}

func (e entry) assign(v value) {
	if e.in == nil {
		fail(api.EndNil, e.at)
	}
	if _, ok := e.in.find(e.key); !ok && e.in.length() >= api.MaxThing {
		fail(api.EndLarge, e.at)
	}
	e.in.store(e.key, v)
}
