package eval_test

import (
	"maps"
	"slices"

	"moniker/api"
	"moniker/consts"
	"moniker/flow"
	"moniker/scope"
	"moniker/tree"
	"moniker/xref"
)

// model runs a program of one file by the chapter's words, node by node, and copies whatever is to be copied. Its values are: bool, int64, string, *box (a pointer), bunch (a slice), *dict (a map), deed (a func), thing (an interface value), fields (a struct).
type model struct {
	w     *xref.Whole
	tree  api.Tree
	l     []api.Token
	decls []api.Decl
	fuel  int
	depth int
	trace [][]api.Val
	world names       // package variables
	funcs map[int]int // nodes of Funcs, by declaration
}

type (
	box   struct{ v any }
	bunch struct{ array []*box } // its length is len, its capacity cap
	dict  struct{ m map[any]any }
	deed  func(at int, args []any) []any
	thing struct {
		id int
		v  any
	}
	fields []*box
	// names are the variables that are known, by declaration.
	names map[int]*box
	stop  struct {
		end api.End
		at  api.Place
	}
	element struct { // of a map, as a place
		in  *dict
		key any
		id  int
		n   int
	}
	way struct { // how a statement is left
		how  string
		node int
		list []any
	}
)

// modelRun is what Run should answer.
func modelRun(w *xref.Whole, fuel int) (out api.Run) {
	m := &model{w: w, tree: w.Program().Tree(0), l: w.Program().Tokens(0), decls: w.Scopes().Decls(), fuel: fuel, world: names{}, funcs: map[int]int{}}
	defer func() {
		if s, ok := recover().(stop); ok {
			out = api.Run{End: s.end, At: s.at, Left: m.fuel, Trace: m.trace}
		}
	}()
	var calls []int // the functions init, and main behind them
	specs := map[api.Place][2][]int{}
	for _, n := range m.kids(m.kid(0, 2)) {
		switch m.kind(n) {
		case api.NodeFunc:
			d := w.Scopes().Makes(m.at(m.kid(n, 1)))
			m.funcs[d] = n
			switch name := w.Program().Word(m.at(m.kid(n, 1))); {
			case name == "main":
				calls = append(calls, n)
			case name == "init":
				calls = slices.Insert(calls, max(0, len(calls)-1), n)
			}
		case api.NodeVar:
			for _, spec := range m.kids(n) {
				m.declare(m.kids(m.kid(spec, 0)), m.kids(m.kid(spec, 2)), specs)
			}
		}
	}
	for _, at := range w.Checks().Start() {
		if u := specs[at]; len(u[1]) > 0 {
			m.spec(u[0], u[1], m.world)
		}
	}
	for _, n := range calls {
		m.body(n, names{}, nil)
	}
	return api.Run{Left: m.fuel, Trace: m.trace}
}

// declare notes package variables, and the units of which they are made.
func (m *model) declare(left, right []int, specs map[api.Place][2][]int) {
	for i, n := range left {
		if m.id(n) >= 0 {
			m.define(n, m.zero(m.id(n)), m.world)
		}
		if len(right) == len(left) {
			specs[m.at(n)] = [2][]int{{n}, {right[i]}}
		}
	}
	if len(right) != len(left) {
		specs[m.at(left[0])] = [2][]int{left, right}
	}
}

// cell is the cell of a variable.
func (m *model) cell(d int, env names) *box {
	if b, ok := m.world[d]; ok {
		return b
	}
	return env[d]
}

func (m *model) kind(n int) api.NodeKind { return m.tree.Nodes[n].Kind }
func (m *model) kids(n int) []int        { return tree.Kids(m.tree, n) }
func (m *model) kid(n, i int) int        { return tree.Kid(m.tree, n, i) }
func (m *model) at(n int) api.Place      { return api.Place{Token: m.tree.Nodes[n].First} }
func (m *model) id(n int) int            { return m.w.Checks().Type(0, n) }
func (m *model) form(id int) api.NodeKind {
	return m.w.Table().Form(id)
}
func (m *model) part(id, i int) int {
	parts, _ := m.w.Table().Parts(m.w.Table().Under(id))
	return parts[i]
}
func (m *model) bound(n int) int         { return m.w.Scopes().Bound(m.at(n)) }
func (m *model) fail(end api.End, n int) { panic(stop{end, m.at(n)}) }

// mark is the kind of a node's first own token.
func (m *model) mark(n int) api.Kind { return m.l[tree.Own(m.l, m.tree, n)[0]].Kind }

// has tells whether a node has an own token of a kind.
func (m *model) has(n int, kind api.Kind) bool {
	return slices.ContainsFunc(tree.Own(m.l, m.tree, n), func(k int) bool { return m.l[k].Kind == kind })
}

func (m *model) take(n int) {
	if m.fuel == 0 {
		m.fail(api.EndFuel, n)
	}
	m.fuel--
}

func (m *model) zero(id int) any {
	switch m.form(id) {
	case api.NodeStar:
		return (*box)(nil)
	case api.NodeSliceOf:
		return bunch{}
	case api.NodeMapOf:
		return (*dict)(nil)
	case api.NodeFuncOf:
		return deed(nil)
	case api.NodeInterface:
		return thing{-1, nil}
	case api.NodeStruct:
		parts, _ := m.w.Table().Parts(id)
		var out fields
		for _, p := range parts {
			out = append(out, &box{m.zero(p)})
		}
		return out
	}
	return []any{false, int64(0), ""}[m.w.Table().Under(id)]
}

func (b *box) read() any { return copied(b.v) }

func copied(v any) any {
	if f, ok := v.(fields); ok {
		var out fields
		for _, b := range f {
			out = append(out, &box{copied(b.v)})
		}
		return out
	}
	return v
}

func (b *box) assign(v any) {
	if f, ok := v.(fields); ok {
		for i, to := range b.v.(fields) {
			to.assign(f[i].read())
		}
		return
	}
	b.v = v
}

// put is a value of a type put into another.
func (m *model) put(v any, from, to int) any {
	if to >= 0 && m.form(to) == api.NodeInterface && m.form(from) != api.NodeInterface {
		return thing{from, v}
	}
	return v
}

func (m *model) val(v any) api.Val {
	switch x := v.(type) {
	case bool:
		return api.Val{Sort: api.SortBool, Bool: x}
	case int64:
		return api.Val{Sort: api.SortInt, Int: x}
	}
	return api.Val{Sort: api.SortText, Text: v.(string)}
}

func (m *model) plain(v api.Val) any {
	switch v.Sort {
	case api.SortBool:
		return v.Bool
	case api.SortInt:
		return v.Int
	}
	return v.Text
}

func isNone(v any) bool {
	switch x := v.(type) {
	case *box:
		return x == nil
	case bunch:
		return x.array == nil
	case *dict:
		return x == nil
	case deed:
		return x == nil
	case thing:
		return x.id < 0
	}
	return false
}

func equal(a, b any) bool {
	switch a.(type) {
	case bool, int64, string, *box:
		return a == b
	}
	return isNone(a) && isNone(b)
}

// list evaluates expressions for places of types: as many, or one with several values.
func (m *model) list(nodes []int, to []int, env names) []any {
	if len(nodes) == len(to) {
		var out []any
		for i, n := range nodes {
			out = append(out, m.put(m.eval(n, env), m.id(n), to[i]))
		}
		return out
	}
	n := nodes[0]
	m.take(n)
	from := append(m.w.Checks().Types(0, n), 0)
	var all []any
	switch m.kind(n) {
	case api.NodeIndex:
		e := m.element(n, env)
		v, ok := e.look()
		if !ok {
			v = m.zero(e.id)
		}
		all = []any{v, ok}
	case api.NodeAssert:
		v, ok := m.assert(n, env)
		all = []any{v, ok}
	default:
		all = m.call(n, env)
	}
	for i := range all {
		all[i] = m.put(all[i], from[i], to[i])
	}
	return all
}

func (e element) look() (any, bool) {
	if e.in == nil {
		return nil, false
	}
	v, ok := e.in.m[e.key]
	return copied(v), ok
}

func (m *model) element(n int, env names) element {
	x := m.eval(m.kid(n, 0), env).(*dict)
	return element{x, m.eval(m.kid(n, 1), env), m.id(n), n}
}

// eval evaluates an expression with one value.
func (m *model) eval(n int, env names) any {
	m.take(n)
	if v, ok := m.w.Checks().Const(0, n); ok {
		return m.plain(v)
	}
	kids := m.kids(n)
	switch m.kind(n) {
	case api.NodeName:
		if d := m.bound(n); d == scope.Universe("nil") {
			return m.zero(m.id(n))
		} else if f, ok := m.funcs[d]; ok {
			return m.deed(f, names{})
		}
		return m.find(n, env).read()
	case api.NodeParen:
		return m.eval(kids[0], env)
	case api.NodeBinary:
		return m.binary(n, env)
	case api.NodeSign:
		return m.sign(n, env)
	case api.NodeStar:
		return m.find(n, env).read()
	case api.NodeSelect:
		return m.selector(n, env)
	case api.NodeIndex:
		return m.index(n, env)
	case api.NodeSlice:
		return m.slice(n, env)
	case api.NodeAssert:
		v, ok := m.assert(n, env)
		if !ok {
			m.fail(api.EndAssert, n)
		}
		return v
	case api.NodeFuncLit:
		return m.deed(n, maps.Clone(env))
	case api.NodeComposite:
		return m.composite(n, env)
	}
	return m.call(n, env)[0]
}

// place evaluates a node as a place: *box, element, or nil of a blank name.
func (m *model) place(n int, env names) any {
	if m.kind(n) == api.NodeName && m.w.Program().Word(m.at(n)) == "_" {
		return nil
	}
	m.take(n)
	switch m.kind(n) {
	case api.NodeParen:
		return m.place(m.kid(n, 0), env)
	case api.NodeIndex:
		if m.form(m.id(m.kid(n, 0))) == api.NodeMapOf {
			return m.element(n, env)
		}
	}
	return m.find(n, env)
}

// find is the cell of a node that has taken one.
func (m *model) find(n int, env names) *box {
	kids := m.kids(n)
	switch m.kind(n) {
	case api.NodeParen:
		return m.place(kids[0], env).(*box)
	case api.NodeStar:
		b := m.eval(kids[0], env).(*box)
		if b == nil {
			m.fail(api.EndNil, n)
		}
		return b
	case api.NodeIndex:
		s, i := m.eval(kids[0], env).(bunch), m.eval(kids[1], env).(int64)
		if i < 0 || i >= int64(len(s.array)) {
			m.fail(api.EndIndex, n)
		}
		return s.array[i]
	case api.NodeSelect:
		at := m.at(kids[1])
		return m.walk(m.base(kids[0], env), append(m.w.Checks().Way(at), m.w.Checks().Members(at)[0]), n)
	}
	return m.cell(m.bound(n), env)
}

// base is x of a Select, in a cell.
func (m *model) base(n int, env names) *box {
	if m.form(m.id(n)) != api.NodeStar && m.isPlace(n) {
		return m.place(n, env).(*box)
	}
	return &box{m.eval(n, env)}
}

func (m *model) isPlace(n int) bool {
	switch m.kind(n) {
	case api.NodeName:
		return m.decls[m.bound(n)].Kind == api.DeclVar
	case api.NodeParen:
		return m.isPlace(m.kid(n, 0))
	case api.NodeStar:
		return true
	case api.NodeIndex:
		return m.form(m.id(m.kid(n, 0))) == api.NodeSliceOf
	case api.NodeSelect:
		return m.w.Table().Written(0, m.kid(n, 0)) < 0 && m.isField(n) && (m.form(m.id(m.kid(n, 0))) == api.NodeStar || m.isPlace(m.kid(n, 0)))
	}
	return false
}

func (m *model) isField(n int) bool {
	k := m.decls[m.w.Checks().Members(m.at(m.kid(n, 1)))[0]].Kind
	return k == api.DeclField || k == api.DeclEmbed
}

// walk goes by fields.
func (m *model) walk(b *box, path []int, n int) *box {
	for _, d := range path {
		if p, ok := b.v.(*box); ok {
			if b = p; b == nil {
				m.fail(api.EndNil, n)
			}
		}
		_, all := m.w.Table().Parts(m.w.Table().Named(m.decls[d].Of))
		b = b.v.(fields)[slices.Index(all, d)]
	}
	return b
}

func (m *model) selector(n int, env names) any {
	at := m.at(m.kid(n, 1))
	if m.w.Table().Written(0, m.kid(n, 0)) >= 0 {
		return deed(func(call int, args []any) []any {
			return m.bind(&box{args[0]}, m.w.Checks().Members(at)[0], m.w.Checks().Way(at), call)(call, args[1:])
		})
	}
	if m.isField(n) {
		return m.find(n, env).read()
	}
	return m.bind(m.base(m.kid(n, 0), env), m.w.Checks().Members(at)[0], m.w.Checks().Way(at), n)
}

// bind makes the receiver of a method.
func (m *model) bind(b *box, method int, path []int, n int) deed {
	b = m.walk(b, path, n)
	if m.decls[method].Kind == api.DeclShape {
		x := b.v.(thing)
		if x.id < 0 {
			m.fail(api.EndNil, n)
		}
		id := x.id
		if parts, _ := m.w.Table().Parts(id); m.w.Table().Under(id) == id && m.form(id) == api.NodeStar {
			id = parts[0]
		}
		d, more, _ := m.w.Table().Look(id, m.decls[method].Name)
		return m.bind(&box{x.v}, d, more, n)
	}
	f := m.funcs[method]
	isStar := m.kind(m.kid(m.kid(f, 0), 1)) == api.NodeStar
	p, isPointer := b.v.(*box)
	var receiver any
	switch {
	case isStar && isPointer:
		receiver = p
	case isStar:
		receiver = b
	case isPointer && p == nil:
		m.fail(api.EndNil, n)
	case isPointer:
		receiver = p.read()
	default:
		receiver = b.read()
	}
	return func(at int, args []any) []any {
		return m.deed(f, names{})(at, append([]any{copied(receiver)}, args...))
	}
}

// deed is a Func or FuncLit as a value.
func (m *model) deed(f int, env names) deed {
	return func(at int, args []any) []any {
		if m.depth == api.MaxCalls {
			m.fail(api.EndDeep, at)
		}
		m.depth++
		defer func() { m.depth-- }()
		return m.body(f, env, args)
	}
}

func (m *model) body(f int, env names, args []any) []any {
	env = maps.Clone(env)
	kids := m.kids(f)
	var params []int
	if m.kind(kids[0]) == api.NodeRecv {
		params = append(params, m.kid(kids[0], 0))
	}
	sig := kids[len(kids)-2]
	for _, p := range m.kids(m.kid(sig, 0)) {
		params = append(params, m.kids(m.kid(p, 0))...)
	}
	for i, p := range params {
		m.define(p, args[i], env)
	}
	var results []int
	for _, r := range m.kids(m.kid(sig, 1)) {
		results = append(results, m.w.Table().Written(0, r))
	}
	return m.block(kids[len(kids)-1], env, results).list
}

// define gives what a Name makes a new cell.
func (m *model) define(n int, v any, env names) {
	if m.kind(n) != api.NodeName {
		return
	}
	if d := m.w.Scopes().Makes(m.at(n)); d >= 0 {
		env[d] = &box{v}
	}
}

func (m *model) binary(n int, env names) any {
	kids, op := m.kids(n), m.mark(n)
	a := m.eval(kids[0], env)
	if op == api.TokBoth && a == false || op == api.TokEither && a == true {
		return a
	}
	b := m.eval(kids[1], env)
	if op == api.TokBoth || op == api.TokEither {
		return b
	}
	return m.reckon(op, a, b, n)
}

func (m *model) reckon(op api.Kind, a, b any, n int) any {
	switch op {
	case api.TokEq:
		return equal(a, b)
	case api.TokNe:
		return !equal(a, b)
	case api.TokLt, api.TokLe, api.TokGt, api.TokGe:
		v, _ := consts.Binary(op, m.val(a), m.val(b))
		return v.Bool
	}
	if s, ok := a.(string); ok {
		if len(s)+len(b.(string)) > api.MaxThing {
			m.fail(api.EndLarge, n)
		}
		return s + b.(string)
	}
	x, y := a.(int64), b.(int64)
	switch op {
	case api.TokDiv, api.TokRem:
		switch {
		case y == 0:
			m.fail(api.EndZero, n)
		case y == -1 && op == api.TokDiv:
			return -x
		case y == -1:
			return int64(0)
		case op == api.TokDiv:
			return x / y
		}
		return x % y
	case api.TokShl, api.TokShr:
		if y < 0 {
			m.fail(api.EndShift, n)
		}
		for ; y > 0 && x != 0 && x != -1 || y > 0 && op == api.TokShl && x != 0; y-- {
			if op == api.TokShl {
				x += x
			} else {
				x >>= 1
			}
		}
		return x
	}
	return map[api.Kind]int64{api.TokAdd: x + y, api.TokSub: x - y, api.TokMul: x * y, api.TokAnd: x & y, api.TokOr: x | y, api.TokXor: x ^ y, api.TokAndNot: x &^ y}[op]
}

func (m *model) sign(n int, env names) any {
	kid, op := m.kid(n, 0), m.mark(n)
	if op == api.TokAnd {
		inner := kid
		for m.kind(inner) == api.NodeParen {
			inner = m.kid(inner, 0)
		}
		if m.kind(inner) == api.NodeComposite {
			return &box{m.eval(kid, env)}
		}
		return m.place(kid, env).(*box)
	}
	v := m.eval(kid, env)
	switch op {
	case api.TokNot:
		return !v.(bool)
	case api.TokSub:
		return -v.(int64)
	case api.TokXor:
		return -1 - v.(int64)
	}
	return v
}

func (m *model) index(n int, env names) any {
	kids := m.kids(n)
	switch m.form(m.id(kids[0])) {
	case api.NodeSliceOf:
		return m.find(n, env).read()
	case api.NodeMapOf:
		e := m.element(n, env)
		if v, ok := e.look(); ok {
			return v
		}
		return m.zero(e.id)
	}
	s, i := m.eval(kids[0], env).(string), m.eval(kids[1], env).(int64)
	if i < 0 || i >= int64(len(s)) {
		m.fail(api.EndIndex, n)
	}
	return int64(s[i])
}

func (m *model) slice(n int, env names) any {
	kids := m.kids(n)
	x := m.eval(kids[0], env)
	s, isText := x.(string)
	b, _ := x.(bunch)
	low, high, most := int64(0), int64(len(b.array)+len(s)), int64(cap(b.array)+len(s))
	if m.kind(kids[1]) != api.NodeNone {
		low = m.eval(kids[1], env).(int64)
	}
	if m.kind(kids[2]) != api.NodeNone {
		high = m.eval(kids[2], env).(int64)
	}
	if low < 0 || low > high || high > most {
		m.fail(api.EndIndex, n)
	}
	if isText {
		return s[low:high]
	}
	return bunch{b.array[low:high]}
}

func (m *model) assert(n int, env names) (any, bool) {
	x, to := m.eval(m.kid(n, 0), env).(thing), m.w.Table().Written(0, m.kid(n, 1))
	if !m.fits(x, to) {
		return m.zero(to), false
	}
	if m.form(to) == api.NodeInterface {
		return x, true
	}
	return copied(x.v), true
}

func (m *model) fits(x thing, to int) bool {
	if m.form(to) == api.NodeInterface {
		return x.id >= 0 && m.w.Table().Satisfies(x.id, to)
	}
	return x.id == to
}

// room is a bunch of so many zero values.
func (m *model) room(id, length, capacity int) bunch {
	out := make([]*box, capacity)
	for i := range out {
		out[i] = &box{m.zero(id)}
	}
	return bunch{out[:length]}
}

func (m *model) composite(n int, env names) any {
	id, list := m.id(n), m.kids(m.kid(n, 1))
	switch m.form(id) {
	case api.NodeStruct:
		out := m.zero(id).(fields)
		for i, e := range list {
			if m.kind(e) == api.NodePair {
				_, all := m.w.Table().Parts(id)
				i, e = slices.Index(all, m.w.Checks().Members(m.at(m.kid(e, 0)))[0]), m.kid(e, 1)
			}
			out[i].v = m.put(m.eval(e, env), m.id(e), m.part(id, i))
		}
		return out
	case api.NodeSliceOf:
		var values []any
		next := 0
		for _, e := range list {
			if m.kind(e) == api.NodePair {
				next, e = int(m.eval(m.kid(e, 0), env).(int64)), m.kid(e, 1)
			}
			for len(values) <= next {
				values = append(values, nil)
			}
			values[next] = m.put(m.eval(e, env), m.id(e), m.part(id, 0))
			next++
		}
		out := m.room(m.part(id, 0), len(values), len(values))
		for i, v := range values {
			if v != nil {
				out.array[i].v = v
			}
		}
		return out
	}
	out := &dict{map[any]any{}}
	for _, e := range list {
		key := m.eval(m.kid(e, 0), env)
		out.m[key] = m.put(m.eval(m.kid(e, 1), env), m.id(m.kid(e, 1)), m.part(id, 1))
	}
	return out
}

// call is a Call that has taken one.
func (m *model) call(n int, env names) []any {
	called, args := m.kid(n, 0), m.kids(m.kid(n, 1))
	if to := m.w.Table().Written(0, called); to >= 0 {
		return m.list(args, []int{to}, env)
	}
	if d := -1; m.kind(called) == api.NodeName {
		if d = m.bound(called); m.decls[d].Kind == api.DeclUniverse {
			return m.native(m.decls[d].Name, n, args, env)
		}
	}
	f := m.eval(called, env).(deed)
	params, _ := m.w.Table().Parts(m.w.Table().Under(m.id(called)))
	list := m.list(args, params, env)
	if f == nil {
		m.fail(api.EndNil, n)
	}
	return f(n, list)
}

func (m *model) native(name string, n int, args []int, env names) []any {
	var list []any
	for _, a := range args {
		if m.w.Table().Written(0, a) < 0 {
			list = append(list, m.eval(a, env))
		}
	}
	switch name {
	case "append":
		return []any{m.appended(n, args, list)}
	case "copy":
		to, from := list[0].(bunch).array, list[1].(bunch).array
		to, from = to[:min(len(to), len(from))], from[:min(len(to), len(from))]
		var values []any
		for _, b := range from {
			values = append(values, b.read())
		}
		for i, v := range values {
			to[i].assign(v)
		}
		return []any{int64(len(to))}
	case "delete":
		if x := list[0].(*dict); x != nil {
			delete(x.m, list[1])
		}
		return nil
	case "len":
		switch x := list[0].(type) {
		case string:
			return []any{int64(len(x))}
		case bunch:
			return []any{int64(len(x.array))}
		}
		if x := list[0].(*dict); x != nil {
			return []any{int64(len(x.m))}
		}
		return []any{int64(0)}
	case "make":
		id := m.w.Table().Written(0, args[0])
		if m.form(id) == api.NodeMapOf {
			return []any{&dict{map[any]any{}}}
		}
		length, capacity := list[0].(int64), list[len(list)-1].(int64)
		if length < 0 || length > api.MaxThing || capacity < length {
			m.fail(api.EndIndex, n)
		}
		return []any{m.room(m.part(id, 0), int(length), int(capacity))}
	case "new":
		return []any{&box{m.zero(m.w.Table().Written(0, args[0]))}}
	case "panic":
		m.fail(api.EndPanic, n)
	}
	var event []api.Val
	for _, v := range list {
		event = append(event, m.val(v))
	}
	m.trace = append(m.trace, event)
	return nil
}

func (m *model) appended(n int, args []int, list []any) any {
	s, id := list[0].(bunch), m.part(m.id(args[0]), 0)
	var more []any
	if m.has(n, api.TokDots) {
		for _, b := range list[1].(bunch).array {
			more = append(more, b.read())
		}
	} else {
		for i, v := range list[1:] {
			more = append(more, m.put(v, m.id(args[i+1]), id))
		}
	}
	length := len(s.array) + len(more)
	if length > api.MaxThing {
		m.fail(api.EndLarge, n)
	}
	if len(more) == 0 {
		return s
	}
	out := s
	if length > cap(s.array) {
		out = m.room(id, len(s.array), max(4, 2*cap(s.array), length))
		for i, b := range s.array {
			out.array[i].assign(b.read())
		}
	}
	out.array = out.array[:length]
	for i, v := range more {
		out.array[len(s.array)+i].assign(v)
	}
	return out
}

// store assigns to a place.
func (m *model) store(place any, v any) {
	switch p := place.(type) {
	case *box:
		p.assign(v)
	case element:
		if p.in == nil {
			m.fail(api.EndNil, p.n)
		}
		if _, ok := p.in.m[p.key]; !ok && len(p.in.m) >= api.MaxThing {
			m.fail(api.EndLarge, p.n)
		}
		p.in.m[p.key] = v
	}
}

func (m *model) load(place any) any {
	if e, ok := place.(element); ok {
		if v, ok := e.look(); ok {
			return v
		}
		return m.zero(e.id)
	}
	return place.(*box).read()
}

func (m *model) ids(nodes []int) []int {
	var out []int
	for _, n := range nodes {
		out = append(out, m.id(n))
	}
	return out
}

// block does the statements of a Block, in which more names become known.
func (m *model) block(n int, env names, results []int) way {
	for _, s := range m.kids(n) {
		m.take(s)
		if l := m.do(s, env, results); l.how != "" {
			return l
		}
	}
	return way{}
}

// simple does a header's Simple.
func (m *model) simple(n int, env names, results []int) {
	if m.kind(n) != api.NodeNone {
		m.take(n)
		m.do(n, env, results)
	}
}

// do does a statement that has taken one.
func (m *model) do(n int, env names, results []int) way {
	kids := m.kids(n)
	switch m.kind(n) {
	case api.NodeBlock:
		return m.block(n, env, results)
	case api.NodeLabel:
		return m.do(kids[1], env, results)
	case api.NodeVar:
		for _, spec := range kids {
			m.spec(m.kids(m.kid(spec, 0)), m.kids(m.kid(spec, 2)), env)
		}
	case api.NodeDefine:
		m.spec(m.kids(kids[0]), m.kids(kids[1]), env)
	case api.NodeAssign:
		m.assign(n, env)
	case api.NodeStep:
		p := m.place(kids[0], env)
		by := int64(1)
		if m.mark(n) == api.TokDec {
			by = -1
		}
		m.store(p, m.load(p).(int64)+by)
	case api.NodeDo:
		m.take(kids[0])
		m.call(kids[0], env)
	case api.NodeReturn:
		return way{how: "return", list: m.list(m.kids(kids[0]), results, env)}
	case api.NodeIf:
		m.simple(kids[0], env, results)
		switch {
		case m.eval(kids[1], env).(bool):
			return m.block(kids[2], env, results)
		case m.kind(kids[3]) == api.NodeIf:
			m.take(kids[3])
			return m.do(kids[3], env, results)
		case m.kind(kids[3]) == api.NodeBlock:
			return m.block(kids[3], env, results)
		}
	case api.NodeFor:
		return m.loop(n, env, results)
	case api.NodeRange:
		return m.ranging(n, env, results)
	case api.NodeSwitch, api.NodeMatch:
		l := m.choose(n, env, results)
		if l.how == "break" && l.node == n {
			return way{}
		}
		return l
	case api.NodeBreak:
		return way{how: "break", node: flow.Leaves(m.w.Program(), m.w.Scopes(), 0, n)}
	case api.NodeContinue:
		return way{how: "continue", node: flow.Leaves(m.w.Program(), m.w.Scopes(), 0, n)}
	case api.NodeFall:
		return way{how: "fall"}
	}
	return way{}
}

// spec is a VarSpec or Define.
func (m *model) spec(left, right []int, env names) {
	var values []any
	if len(right) > 0 {
		values = m.list(right, m.ids(left), env)
	}
	for i, n := range left {
		var v any
		if len(right) > 0 {
			v = values[i]
		} else if m.id(n) >= 0 {
			v = m.zero(m.id(n))
		}
		if d := m.bound(n); d >= 0 && m.w.Scopes().Makes(m.at(n)) < 0 {
			m.cell(d, env).assign(v)
		}
		m.define(n, v, env)
	}
}

func (m *model) assign(n int, env names) {
	left, right := m.kids(m.kid(n, 0)), m.kids(m.kid(n, 1))
	var places []any
	for _, k := range left {
		places = append(places, m.place(k, env))
	}
	if op := m.mark(n); op != api.TokIs {
		v := m.eval(right[0], env)
		m.store(places[0], m.reckon(op-api.TokAddIs+api.TokAdd, m.load(places[0]), v, n))
		return
	}
	for i, v := range m.list(right, m.ids(left), env) {
		m.store(places[i], v)
	}
}

func (m *model) loop(n int, env names, results []int) way {
	kids := m.kids(n)
	m.simple(kids[0], env, results)
	for {
		m.take(n)
		if m.kind(kids[1]) != api.NodeNone && !m.eval(kids[1], env).(bool) {
			return way{}
		}
		if l := m.block(kids[3], env, results); l.how == "break" && l.node == n {
			return way{}
		} else if l.how != "" && !(l.how == "continue" && l.node == n) {
			return l
		}
		if m.kind(kids[0]) == api.NodeDefine {
			for _, name := range m.kids(m.kid(kids[0], 0)) {
				if d := m.w.Scopes().Makes(m.at(name)); d >= 0 {
					env[d] = &box{env[d].read()}
				}
			}
		}
		m.simple(kids[2], env, results)
	}
}

func (m *model) ranging(n int, env names, results []int) way {
	kids := m.kids(n)
	x := m.eval(kids[1], env)
	round := func(values ...any) (way, bool) {
		m.take(n)
		left := m.kids(kids[0])
		if m.has(n, api.TokNew) {
			for i, name := range left {
				m.define(name, values[i], env)
			}
		} else {
			var places []any
			for _, k := range left {
				places = append(places, m.place(k, env))
			}
			for i, p := range places {
				m.store(p, values[i])
			}
		}
		l := m.block(kids[2], env, results)
		if l.how == "" || l.how == "continue" && l.node == n {
			return way{}, true
		}
		if l.how == "break" && l.node == n {
			l = way{}
		}
		return l, false
	}
	switch v := x.(type) {
	case int64:
		for i := int64(0); i < v; i++ {
			if l, ok := round(i); !ok {
				return l
			}
		}
	case string:
		for i := range len(v) {
			if l, ok := round(int64(i), int64(v[i])); !ok {
				return l
			}
		}
	case bunch:
		for i, b := range v.array {
			if l, ok := round(int64(i), b.read()); !ok {
				return l
			}
		}
	case *dict:
		if v == nil {
			return way{}
		}
		keys := slices.SortedFunc(maps.Keys(v.m), func(a, b any) int {
			if consts.Less(m.val(a), m.val(b)) {
				return -1
			}
			return 1
		})
		for _, k := range keys {
			if e, ok := v.m[k]; ok {
				if l, ok := round(k, copied(e)); !ok {
					return l
				}
			}
		}
	}
	return way{}
}

// choose is a Switch or Match.
func (m *model) choose(n int, env names, results []int) way {
	kids := m.kids(n)
	m.simple(kids[0], env, results)
	clauses := m.kids(kids[len(kids)-1])
	var tag any = true
	if expr := kids[len(kids)-2]; m.kind(expr) != api.NodeNone {
		tag = m.eval(expr, env)
	}
	fit, isMatch := -1, m.kind(n) == api.NodeMatch
search:
	for i, c := range clauses {
		if m.kind(c) == api.NodeDefault {
			continue
		}
		for _, e := range m.kids(m.kid(c, 0)) {
			to := m.w.Table().Written(0, e)
			if isMatch && (to < 0 && tag.(thing).id < 0 || to >= 0 && m.fits(tag.(thing), to)) || !isMatch && equal(tag, m.eval(e, env)) {
				fit = i
				break search
			}
		}
	}
	for i, c := range clauses {
		if fit < 0 && m.kind(c) == api.NodeDefault {
			fit = i
		}
	}
	if fit < 0 {
		return way{}
	}
	if isMatch {
		v := tag
		if c := clauses[fit]; m.kind(c) == api.NodeCase && len(m.kids(m.kid(c, 0))) == 1 {
			if to := m.w.Table().Written(0, m.kid(m.kid(c, 0), 0)); to >= 0 && m.form(to) != api.NodeInterface {
				v = copied(tag.(thing).v)
			}
		}
		m.define(kids[1], v, env)
	}
	l := way{how: "fall"}
	for ; l.how == "fall"; fit++ {
		c := m.kids(clauses[fit])
		l = m.block(c[len(c)-1], env, results)
	}
	return l
}
