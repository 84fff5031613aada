package check

import "moniker/api"

// element is one of a Composite's: its key, if it is a Pair, and its value.
type element struct {
	isPair      bool
	keyAt, at   int
	key, value  operand
	isFieldName bool // the key is the name of a field, and no expression
}

// maxKey is the greatest number of a slice's element.
const maxKey = 1 << 20

func (r reader) composite(n int) (operand, error) {
	kids := r.kids(n)
	id := r.t.Written(r.number, kids[0])
	var list []element
	var all []operand
	for _, n := range r.kids(kids[1]) {
		e := r.element(n)
		list, all = append(list, e), append(all, e.key, e.value)
	}
	if err := settled(all...); err != nil {
		return operand{}, err
	}
	rule := func(int, int, []element) error { return r.refuse(api.ErrForm, kids[0]) }
	switch r.t.Form(id) {
	case api.NodeStruct:
		rule = r.structOf
	case api.NodeSliceOf:
		rule = r.sliceOf
	case api.NodeMapOf:
		rule = r.mapOf
	}
	return valueOf(id), rule(kids[0], id, list)
}

func (r reader) element(n int) element {
	if r.kind(n) != api.NodePair {
		return element{at: n, value: r.expr(n), key: valueOf(intType)}
	}
	kids := r.kids(n)
	e := element{isPair: true, keyAt: kids[0], at: kids[1], key: valueOf(intType), isFieldName: r.isKey[kids[0]]}
	if !e.isFieldName {
		e.key = r.expr(kids[0])
	}
	e.value = r.expr(kids[1])
	return e
}

// goesInto asks that an element is one value that fits a type.
func (r reader) goesInto(e element, to int) error {
	if err := r.one([]int{e.at}, e.value); err != nil {
		return err
	}
	return r.give(e.at, e.value, to, api.ErrAssign)
}

// pairs is how many elements are Pairs.
func pairs(list []element) int {
	count := 0
	for _, e := range list {
		if e.isPair {
			count++
		}
	}
	return count
}

func (r reader) structOf(at, id int, list []element) error {
	ids, fields := r.t.Parts(r.t.Under(id))
	keyed := pairs(list)
	if keyed > 0 && keyed < len(list) {
		return r.refuse(api.ErrForm, at)
	}
	if keyed == 0 && len(list) != 0 && len(list) != len(fields) {
		return r.refuse(api.ErrCount, at)
	}
	byName := map[string]int{}
	for i, d := range fields {
		byName[r.decls[d].Name] = i
	}
	met := map[int]int{}
	for i, e := range list {
		if e.isPair {
			field, ok := byName[r.fieldName(e)]
			if !ok {
				return r.refuse(api.ErrMember, e.keyAt)
			}
			if met[field]++; met[field] > 1 {
				return r.refuse(api.ErrTwice, e.keyAt)
			}
			r.Checks.found[r.at(e.keyAt)] = member{noType, fields[field]}
			i = field
		}
		if err := r.goesInto(e, ids[i]); err != nil {
			return err
		}
	}
	return nil
}

// fieldName is the name that a Pair's key is; of another key one that no field has.
func (r reader) fieldName(e element) string {
	if !e.isFieldName {
		return ""
	}
	return r.word(e.keyAt)
}

func (r reader) sliceOf(at, id int, list []element) error {
	met := map[int64]int{}
	next := int64(0)
	for _, e := range list {
		where := e.at
		if e.isPair {
			where = e.keyAt
			if err := r.one([]int{where}, e.key); err != nil {
				return err
			}
			if e.key.val.Sort != api.SortInt {
				return r.refuse(api.ErrOperand, where)
			}
			next = e.key.val.Int
		}
		if next < 0 || next > maxKey {
			return r.refuse(api.ErrConst, where)
		}
		if met[next]++; met[next] > 1 {
			return r.refuse(api.ErrTwice, where)
		}
		next++
		if err := r.goesInto(e, r.part(id, 0)); err != nil {
			return err
		}
	}
	return nil
}

func (r reader) mapOf(at, id int, list []element) error {
	if pairs(list) < len(list) {
		return r.refuse(api.ErrForm, at)
	}
	met := map[api.Val]int{}
	for _, e := range list {
		if err := r.one([]int{e.keyAt}, e.key); err != nil {
			return err
		}
		if err := r.give(e.keyAt, e.key, r.part(id, 0), api.ErrAssign); err != nil {
			return err
		}
		if e.key.isConst() {
			if met[e.key.val]++; met[e.key.val] > 1 {
				return r.refuse(api.ErrTwice, e.keyAt)
			}
		}
		if err := r.goesInto(e, r.part(id, 1)); err != nil {
			return err
		}
	}
	return nil
}
