package eval_test

import (
	"testing"

	"moniker/api"
)

// bearers are types with methods, by themselves and by what they embed.
const bearers = `
type c struct { n int }
func (x c) get() int { return x.n }
func (x *c) set(n int) { x.n = n }
func (x *c) self() *c { return x }
func (c) blank() string { return "b" }
func (_ *c) blank2() string { return "b2" }
type d struct { c; s string }
type dd struct { d; c2 *c }
type pc struct { *c }
type ppc struct { *pc }
type getter interface { get() int }
type setter interface { getter; set(int) }
type wi struct { getter; n string }
type ws struct { setter }
type num int
func (x num) get() int { x++; return int(x) }
func (x *num) up() { *x += 10 }
type list []int
func (l list) set(n int) { l[0] = n }
func (l list) get() int { return len(l) }
func (l *list) push(n int) { *l = append(*l, n) }
type fun func(int) int
func (f fun) get() int { return f(3) }
type dict map[string]int
func (m dict) set(n int) { m["a"] = n }
type own struct { c; x int }
func (o own) get() int { return o.c.get() * 100 + o.x }
`

// TestMethods: 14.7: whose method it is, and what its receiver is.
func TestMethods(t *testing.T) {
	for _, x := range []struct{ block, trace string }{
		{"x := c{1}; x.set(5); print(x.get(), x.n); p := &x; p.set(6); print(p.get(), x.n, (*p).get(), (&x).get())", "[5 5] [6 6 6 6]"},
		{"x := c{1}; print(x.self() == &x, x.blank(), x.blank2()); s := []c{c{2}}; s[0].set(9); print(s[0].n, s[0].self() == &s[0])", "[true \"b\" \"b2\"] [9 true]"},
		{"print(c{7}.get(), (&c{8}).get(), mk().get(), map[int]c{1: c{4}}[1].get())", "[7 8 3 4]"},
		// by the embedded fields
		{"var x dd; x.set(3); print(x.get(), x.n, x.d.c.n, x.c.get()); x.c2 = x.self(); x.c2.set(4); print(x.n, x.self() == &x.d.c)", "[3 3 3 3] [4 true]"},
		{"p := &dd{}; p.set(3); q := p.d; q.set(5); print(p.get(), q.get())", "[3 5]"},
		{"p := &dd{}; (*p).set(3); print(p.n); (*p).d.set(4); print(p.n); same(p).d.set(5); same(p).set(6); print(p.n); same(p).d.c.n++; (same(p).d).c.set(same(p).n + 1); print(p.get())", "3 4 6 8"},
		{"x := pc{&c{2}}; y := x; y.set(7); print(x.get(), x.n, y.c == x.c); z := ppc{&x}; z.set(8); print(y.get(), z.n)", "[7 7 true] [8 8]"},
		{"x := own{c{2}, 5}; print(x.get(), x.c.get()); x.set(3); print(x.get())", "[205 2] 305"},
		{"x := num(1); print(x.get(), x); x.up(); print(x, num(4).get())", "[2 1] [11 5]"},
		{"l := list{1}; l.set(5); l.push(7); print(l[0], len(l), l.get()); f := fun(func(n int) int { return n * 2 }); print(f.get()); m := dict{}; m.set(4); print(m[\"a\"])", "[5 2 2] 6 4"},
		// by interface values
		{"x := c{1}; var g getter = x; x.n = 5; print(g.get()); g = &x; x.n = 6; print(g.get()); var s setter = &x; s.set(7); print(x.n, s.get()); g = s; print(g.get())", "1 6 [7 7] 7"},
		{"x := d{c{1}, \"\"}; var g getter = x; print(g.get()); var s setter = &x; s.set(4); print(x.n, g.get()); g = pc{&x.c}; print(g.get()); s = pc{&x.c}; s.set(5); print(x.n, g.get())", "1 [4 1] 4 [5 5]"},
		{"x := wi{num(1), \"a\"}; print(x.get(), x.getter.get()); x.getter = &c{5}; y := x; print(y.get()); var g getter = y; print(g.get()); g = &y; y.getter = num(8); print(g.get())", "[2 2] 5 5 9"},
		{"x := ws{&c{1}}; x.set(4); print(x.get(), x.setter.get()); y := ws{x}; y.set(5); print(x.get(), y.get()); z := wi{wi{wi{num(3), \"\"}, \"\"}, \"\"}; print(z.get())", "[4 4] [5 5] 4"},
		{"for i, g := range []getter{num(1), c{2}, &c{3}, &d{c{4}, \"\"}, list{1, 2}, wi{c{6}, \"\"}, &pc{&c{7}}, own{c{1}, 2}} { print(i, g.get()) }", "[0 2] [1 2] [2 3] [3 4] [4 2] [5 6] [6 7] [7 102]"},
		// method values: the receiver is made when the value is made
		{"x := c{1}; f := x.get; x.n = 2; print(f(), x.get()); p := &x; f = p.get; p.n = 3; print(f(), f(), p.get())", "[1 2] [2 2 3]"},
		{"x := c{1}; f := x.set; y := x; f(5); print(x.n, y.n); p := &y; g := p.set; p = &x; g(6); print(x.n, y.n)", "[5 1] [5 6]"},
		{"x := d{c{1}, \"\"}; f, s := x.get, x.set; x.c = c{2}; print(f()); s(7); print(x.n, f())", "1 [7 1]"},
		{"p := pc{&c{1}}; f, s := p.get, p.set; p.c = &c{2}; print(f(), p.get()); s(7); print(p.n)", "[1 2] 2"},
		{"var g getter = num(1); f := g.get; g = num(7); print(f(), g.get())", "[2 8]"},
		{"x := &c{1}; var g getter = x; f := g.get; x.n = 5; print(f(), g.get())", "[1 5]"},
		{"x := c{1}; w := wi{&x, \"\"}; f := w.get; x.n = 5; w.getter = num(9); print(f(), w.get())", "[1 10]"},
		{"x := num(5); f := x.get; print(f(), f()); g := x.up; g(); g(); print(x)", "[6 6] 25"},
		{"l := list{1, 2}; f := l.set; l[0] = 7; f(9); print(l[0]); l = nil; g := l.get; print(g())", "9 0"},
		{"fs := []func(int){}; xs := []c{c{1}, c{2}}; for i := range xs { fs = append(fs, xs[i].set) }; for i, f := range fs { f(i + 10) }; print(xs[0].n, xs[1].n)", "[10 11]"},
		{"x := c{1}; f := func(h func() int) int { x.n = 9; return h() }; print(f(x.get), f(x.get))", "[1 9]"},
		// method expressions
		{"x := c{1}; print(c.get(x), (*c).get(&x)); (*c).set(&x, 4); f := c.get; g := (*c).get; x.n = 5; print(f(x), g(&x), d.get(d{x, \"\"}), (*dd).get(&dd{}))", "[1 1] [5 5 5 0]"},
		{"h := (*d).set; x := d{}; h(&x, 3); print(x.n); k := pc.set; k(pc{&x.c}, 4); print(x.n); getter.get(&x); print(getter.get(x), setter.get(&x), wi.get(wi{x, \"\"}), num.get(2), list.get(nil))", "3 4 [4 4 4 3 0]"},
		{"f := setter.set; x := c{}; f(&x, 6); print(x.n); g := (*ws).set; g(&ws{&x}, 7); print(x.n); var m map[string]func(c) int = map[string]func(c) int{\"g\": c.get}; print(m[\"g\"](x))", "6 7 7"},
		// a field that is a func is no method
		{"type h struct { f func(int) int; g getter }; x := h{func(n int) int { return n + 1 }, num(3)}; print(x.f(1), x.g.get(), (&x).f(2)); x.f = nil; print(x.f == nil)", "[2 4 3] true"},
		// a receiver is a new cell in each call
		{"var x cnt; f := x.bump; print(f(), f(), x.n); p := &x; print(p.bump(), p.bump(), x.bump2(), x.bump2(), x.n)", "[1 1 0] [1 1 1 2 2]"},
		{"var y big; y.a.n = 1; f := y.change; y.a.n = 2; print(f(), f(), y.a.n)", "[101 101 2]"},
	} {
		does(t, "methods", bearers+"func mk() c { return c{3} }\nfunc same(p *dd) *dd { return p }\ntype cnt struct { n int }\nfunc (x cnt) bump() int { x.n++; return x.n }\nfunc (x *cnt) bump2() int { x.n++; return x.n }\ntype big struct { a c }\nfunc (b big) change() int { p := &b.a.n; *p += 100; return b.a.n }", x.block, lines(x.trace))
	}
}

// TestMethodFaults: 14.7: nil at the Select, ahead of the arguments; of a method expression at the Call.
func TestMethodFaults(t *testing.T) {
	for _, x := range []struct {
		block string
		end   api.End
		trace string
	}{
		{"var x pc; x.self(); print(x.self() == nil); @x.get()", api.EndNil, "true\n"},
		{"var x pc; h := @x.get; h()", api.EndNil, ""},
		{"var x ppc; @x.self()", api.EndNil, ""},
		{"var x *dd; @x.get()", api.EndNil, ""},
		{"var x *dd; @x.set(f())", api.EndNil, ""},
		{"var x *c; var g getter = x; print(g == nil); @g.get()", api.EndNil, "false\n"},
		{"var x *d; var g setter = x; @g.set(f())", api.EndNil, ""},
		{"x := wi{wi{}, \"\"}; @x.get()", api.EndNil, ""},
		{"x := wi{(*c)(nil), \"\"}; @x.get()", api.EndNil, ""},
		{"h := (*c).get; print(1, @h(nil))", api.EndNil, ""},
		{"h := getter.get; @h(wi{})", api.EndNil, ""},
		{"h := pc.get; @h(pc{})", api.EndNil, ""},
		{"h := (*dd).set; @h(nil, f())", api.EndNil, "1\n"},
		// Interface values that embed one another: the method is never come to.
		{"x := &ws{}; x.setter = x; @x.set(f())", api.EndDeep, ""},
		{"x, y := &ws{}, &ws{}; x.setter, y.setter = y, ws{x}; h := @x.get; h()", api.EndDeep, ""},
		{"x := &ws{}; x.setter = ws{ws{x}}; h := setter.set; @h(x, f())", api.EndDeep, "1\n"},
	} {
		holds(t, "method faults", mainly(world+bearers, x.block), 1000, wanted{x.end, x.trace})
	}
	// The pointer of an embedded field may be nil where the receiver is a *: the method itself meets it.
	holds(t, "method faults", mainly(world+"type c struct { n int }\nfunc (x *c) set(n int) { @x.n = n }\nfunc (x *c) self() *c { return x }\ntype pc struct { *c }\ntype ppc struct { *pc }", "x := ppc{&pc{}}; print(x.self() == nil); x.set(f())"), 1000, wanted{api.EndNil, "true\n1\n"})
	holds(t, "method faults", mainly(world+"type c struct { n int }\nfunc (x *c) set(n int) { @x.n = n }\nfunc (x *c) self() *c { return x }\ntype pc struct { *c }", "h := pc.set; print(pc.self(pc{}) == nil); h(pc{}, f())"), 1000, wanted{api.EndNil, "true\n1\n"})
}

// TestLongWays: 14.7: a chain of interface values is gone through to its end, however long.
func TestLongWays(t *testing.T) {
	does(t, "14.7", bearers, "var g getter = num(4); for range 3000 { g = &wi{g, \"\"} }; print(g.get()); var h getter = num(5); for range 3000 { h = wi{h, \"\"} }; print(h.get())", "5\n6\n")
}
