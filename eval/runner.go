package eval

import (
	"moniker/api"
)

// runner is a program while it runs.
type runner struct {
	*program
	fuel, depth int
	trace       [][]api.Val
	globals     []*cell
}

// frame is a call of a routine while it is done.
type frame struct {
	*runner
	cells   []*cell // of the variables that are known
	results []value
}

// ending is how a run ends ahead of its program's end.
type ending struct {
	end api.End
	at  api.Place
}

// fail ends the run from however deep.
func fail(end api.End, at api.Place) { panic(ending{end, at}) }

func newRunner(p *program, fuel int) *runner {
	r := &runner{program: p, fuel: fuel}
	for _, k := range p.variables {
		r.globals = append(r.globals, &cell{held: k.zero})
	}
	return r
}

// run runs the program to its end.
func (r *runner) run() (out api.Run) {
	defer func() {
		switch why := recover().(type) {
		case nil:
		case ending:
			out = api.Run{End: why.end, At: why.at, Left: r.fuel, Trace: r.trace}
		default:
			panic(why)
		}
	}()
	start := r.checks.Start()
	for _, pack := range r.modules.Order() {
		for len(start) > 0 && r.modules.Pack(start[0].File) == pack {
			r.begin(r.units[start[0]])
			start = start[1:]
		}
		for _, t := range r.inits[pack] {
			t.call(r, nil, nil)
		}
	}
	r.main.call(r, nil, nil)
	return api.Run{Left: r.fuel, Trace: r.trace}
}

// begin gives package variables what they begin with.
func (r *runner) begin(u unit) {
	if len(u.exprs) == 0 {
		return
	}
	c := newCoder(u.page)
	values := c.values(u.exprs, c.kindsAt(u.names))
	for i, v := range values(&frame{runner: r}) {
		if d := u.makes(u.names[i]); d >= 0 {
			r.globals[r.numbers[d]].assign(v)
		}
	}
}

// take takes one of fuel for what begins at a place.
func (r *runner) take(at api.Place) {
	if r.fuel == 0 {
		fail(api.EndFuel, at)
	}
	r.fuel--
}

// enter does a routine for a Call: these are counted, so that they end.
func (r *runner) enter(at api.Place, t *routine, around []*cell, args []value) []value {
	if r.depth == api.MaxCalls {
		fail(api.EndDeep, at)
	}
	r.depth++
	defer func() { r.depth-- }()
	return t.call(r, around, args)
}
