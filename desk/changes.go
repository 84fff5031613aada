package desk

import (
	"slices"

	"moniker/api"
	"moniker/edits"
	"moniker/format"
	"moniker/rename"
)

func (d *Desk) put(o order) (string, api.Errno) {
	name, text := o.texts[0], o.texts[1]
	if file := d.named(name); file >= 0 {
		return d.rewrite(file, text)
	}
	return d.change(append(slices.Clone(d.files), api.File{Name: name, Text: text}))
}

func (d *Desk) drop(o order) (string, api.Errno) {
	return d.change(slices.Delete(slices.Clone(d.files), o.file, o.file+1))
}

func (d *Desk) edit(o order) (string, api.Errno) {
	e := api.Edit{From: o.numbers[0], To: o.numbers[1], Text: o.texts[1]}
	text, why := edits.Apply(d.files[o.file].Text, []api.Edit{e})
	if why != api.OK {
		return "", why
	}
	return d.rewrite(o.file, text)
}

func (d *Desk) format(o order) (string, api.Errno) {
	text, f := format.Format(d.files[o.file].Text)
	if f.Why != api.OK {
		return "", f.Why
	}
	return d.rewrite(o.file, text)
}

func (d *Desk) rename(o order) (string, api.Errno) {
	l, e := d.builder.Rename(d.files, o.file, o.offset, o.name)
	if e != api.OK {
		return "", e
	}
	files, _ := rename.Apply(d.files, l) // changes that are accepted can be done
	d.change(files)
	return line(number(len(l))), api.OK
}

// rewrite is a change of one file's text.
func (d *Desk) rewrite(file int, text string) (string, api.Errno) {
	files := slices.Clone(d.files)
	files[file].Text = text
	return d.change(files)
}

// change puts other files on the desk, so that it can be taken back; nothing is told of it.
func (d *Desk) change(files []api.File) (string, api.Errno) {
	d.back.push(d.files)
	d.again = stack[[]api.File]{}
	d.files = files
	return "", api.OK
}

func (d *Desk) undo(order) (string, api.Errno) { return d.step(&d.back, &d.again) }

func (d *Desk) redo(order) (string, api.Errno) { return d.step(&d.again, &d.back) }

// step takes the last files of one stack, and leaves those that were on the desk on the other.
func (d *Desk) step(from, to *stack[[]api.File]) (string, api.Errno) {
	files, ok := from.pop()
	if !ok {
		return "", api.ErrEmpty
	}
	to.push(d.files)
	d.files = files
	return "", api.OK
}
