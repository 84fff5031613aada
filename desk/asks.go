package desk

import (
	"cmp"
	"slices"
	"strings"

	"moniker/api"
	"moniker/eval"
	"moniker/lexer"
	"moniker/rename"
	"moniker/ties"
	"moniker/xref"
)

// ends are the words of the ends of runs.
var ends = [...]string{
	api.EndDone: "done", api.EndNil: "nil", api.EndIndex: "index", api.EndZero: "zero", api.EndShift: "shift",
	api.EndAssert: "assert", api.EndPanic: "panic", api.EndLarge: "large", api.EndDeep: "deep", api.EndFuel: "fuel",
}

func (d *Desk) list(order) (string, api.Errno) {
	var out strings.Builder
	for _, f := range d.files {
		out.WriteString(line(lexer.Quote(f.Name), number(len(f.Text))))
	}
	return out.String(), api.OK
}

func (d *Desk) show(o order) (string, api.Errno) {
	return strings.Clone(d.files[o.file].Text), api.OK
}

// asking is how a command is done that asks a program without faults: of any other one the fault is told.
func asking(ask func(*Desk, *xref.Whole, order) (string, api.Errno)) doing {
	return func(d *Desk, o order) (string, api.Errno) {
		w, f := d.builder.Open(d.files)
		if f.Why != api.OK {
			return d.fault(f), api.OK
		}
		return ask(d, w, o)
	}
}

func (d *Desk) check(*xref.Whole, order) (string, api.Errno) { return line("ok"), api.OK }

func (d *Desk) run(w *xref.Whole, o order) (string, api.Errno) {
	r := eval.Run(w, o.numbers[0])
	last := []string{ends[r.End], number(r.Left)}
	if r.End != api.EndDone {
		t, _ := w.Program().Token(r.At)
		last = append(last, d.place(r.At.File, t.From))
	}
	return eval.Show(r.Trace) + line(last...), api.OK
}

func (d *Desk) outline(w *xref.Whole, o order) (string, api.Errno) {
	return w.Outline(o.file), api.OK
}

func (d *Desk) uses(w *xref.Whole, o order) (string, api.Errno) {
	at, e := w.At(o.file, o.offset)
	if e != api.OK {
		return "", e
	}
	return d.places(w, w.Decls(at)), api.OK
}

func (d *Desk) class(w *xref.Whole, o order) (string, api.Errno) {
	at, e := w.At(o.file, o.offset)
	if e != api.OK {
		return "", e
	}
	target, e := ties.Target(w, at)
	if e != api.OK {
		return "", e
	}
	return d.places(w, ties.Class(w, target)), api.OK
}

// places tells where the occurrences stand that bind to one of some declarations.
func (d *Desk) places(w *xref.Whole, decls []int) string {
	var all []api.Place
	for _, decl := range decls {
		all = append(all, w.Where(decl)...)
	}
	slices.SortFunc(all, func(a, b api.Place) int {
		return cmp.Or(cmp.Compare(a.File, b.File), cmp.Compare(a.Token, b.Token))
	})
	var out strings.Builder
	var s sheet
	file := -1
	for _, at := range slices.Compact(all) {
		if at.File != file {
			file, s = at.File, sheetOf(d.files[at.File])
		}
		t, _ := w.Program().Token(at)
		out.WriteString(line(s.place(t.From)))
	}
	return out.String()
}

func (d *Desk) fresh(order) (string, api.Errno) {
	name, f := rename.Fresh(d.files)
	if f.Why != api.OK {
		return d.fault(f), api.OK
	}
	return line(name), api.OK
}

func (d *Desk) explain(o order) (string, api.Errno) {
	c, isRefused := rename.Explain(d.files, o.file, o.offset, o.name)
	if !isRefused {
		return line("accepted"), api.OK
	}
	if !d.isFile(c.At.File) {
		return refusal(c.Why), api.OK
	}
	pieces, _ := lexer.Scan(d.files[c.At.File].Text)
	if n := c.At.Token; n >= 0 && n < len(pieces) {
		return refusal(c.Why, d.place(c.At.File, pieces[n].From)), api.OK
	}
	return refusal(c.Why), api.OK
}

// fault is the line that tells one.
func (d *Desk) fault(f api.Fault) string {
	if !d.isFile(f.File) {
		return refusal(f.Why)
	}
	return refusal(f.Why, d.place(f.File, f.At))
}

func (d *Desk) isFile(file int) bool { return file >= 0 && file < len(d.files) }

func (d *Desk) place(file, offset int) string { return sheetOf(d.files[file]).place(offset) }
