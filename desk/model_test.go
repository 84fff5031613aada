package desk_test

import (
	"fmt"
	"math/rand/v2"
	"slices"
	"strings"
	"testing"

	"moniker/api"
	"moniker/desk"
	"moniker/edits"
	"moniker/eval"
	"moniker/format"
	"moniker/lexer"
	"moniker/rename"
	"moniker/ties"
	"moniker/xref"
)

// model is a desk by the chapter's words: all states one behind the other, and which of them is on it. Nothing is kept of what was read.
type model struct {
	states [][]api.File
	now    int
}

func (m *model) files() []api.File { return m.states[m.now] }

func (m *model) change(l []api.File) {
	m.states = append(slices.Clone(m.states[:m.now+1]), l)
	if len(m.states) > api.MaxBack+1 {
		m.states = m.states[1:]
	}
	m.now = len(m.states) - 1
}

func (m *model) place(file, offset int) string {
	return wordPlace(m.files()[file].Name, m.files()[file].Text, offset)
}

func (m *model) fault(f api.Fault) string {
	if f.File < 0 || f.File >= len(m.files()) {
		return fmt.Sprintf("errno %d\n", f.Why)
	}
	return fmt.Sprintf("errno %d %s\n", f.Why, m.place(f.File, f.At))
}

// do is what a command tells, and what it does.
func (m *model) do(o order) (string, api.Errno) {
	isOfFile := slices.Contains([]string{"show", "drop", "edit", "format", "outline"}, o.word)
	isOfPlace := slices.Contains([]string{"find", "class", "rename", "explain"}, o.word)
	if (isOfFile || isOfPlace) && o.file < 0 || isOfPlace && o.offset < 0 {
		return "", api.ErrArg
	}
	switch o.word {
	case "put", "drop", "edit", "format", "rename", "undo", "redo":
		return m.alter(o)
	case "files":
		out := ""
		for _, f := range m.files() {
			out += fmt.Sprintf("%s %d\n", quote(f.Name), len(f.Text))
		}
		return out, api.OK
	case "show":
		return m.files()[o.file].Text, api.OK
	case "explain":
		return m.explain(o), api.OK
	}
	w, f := xref.Open(m.files())
	if f.Why != api.OK {
		return m.fault(f), api.OK
	}
	return m.ask(w, o)
}

func (m *model) alter(o order) (string, api.Errno) {
	now, told := slices.Clone(m.files()), ""
	switch o.word {
	case "put":
		if o.file < 0 {
			now = append(now, api.File{Name: o.name})
			o.file = len(now) - 1
		}
		now[o.file].Text = o.text
	case "drop":
		now = append(now[:o.file], now[o.file+1:]...)
	case "edit":
		text, e := edits.Apply(now[o.file].Text, []api.Edit{{From: o.numbers[0], To: o.numbers[1], Text: o.text}})
		if e != api.OK {
			return "", e
		}
		now[o.file].Text = text
	case "format":
		text, f := format.Format(now[o.file].Text)
		if f.Why != api.OK {
			return "", f.Why
		}
		now[o.file].Text = text
	case "rename":
		l, e := rename.Rename(now, o.file, o.offset, o.to)
		if e != api.OK {
			return "", e
		}
		now, _ = rename.Apply(now, l)
		told = fmt.Sprintf("%d\n", len(l))
	case "undo", "redo":
		to := m.now - 1
		if o.word == "redo" {
			to = m.now + 1
		}
		if to < 0 || to >= len(m.states) {
			return "", api.ErrEmpty
		}
		m.now = to
		return "", api.OK
	}
	m.change(now)
	return told, api.OK
}

func (m *model) explain(o order) string {
	c, refused := rename.Explain(m.files(), o.file, o.offset, o.to)
	if !refused {
		return "accepted\n"
	}
	if c.At.File >= 0 && c.At.Token >= 0 {
		pieces, _ := lexer.Scan(m.files()[c.At.File].Text)
		return fmt.Sprintf("errno %d %s\n", c.Why, m.place(c.At.File, pieces[c.At.Token].From))
	}
	return fmt.Sprintf("errno %d\n", c.Why)
}

func (m *model) ask(w *xref.Whole, o order) (string, api.Errno) {
	switch o.word {
	case "check":
		return "ok\n", api.OK
	case "run":
		r := eval.Run(w, o.numbers[0])
		word := strings.Fields("done nil index zero shift assert panic large deep fuel")[r.End]
		last := fmt.Sprintf("%s %d", word, r.Left)
		if r.End != api.EndDone {
			last += " " + m.place(r.At.File, w.Program().Tokens(r.At.File)[r.At.Token].From)
		}
		return eval.Show(r.Trace) + last + "\n", api.OK
	case "outline":
		return w.Outline(o.file), api.OK
	case "fresh":
		name, _ := rename.Fresh(m.files())
		return name + "\n", api.OK
	}
	at, e := w.At(o.file, o.offset)
	if e != api.OK {
		return "", api.ErrNowhere
	}
	decls := w.Decls(at)
	if o.word == "class" {
		target, e := ties.Target(w, at)
		if e != api.OK {
			return "", e
		}
		decls = ties.Class(w, target)
	}
	out := ""
	for file := range m.files() {
		for n, p := range w.Program().Tokens(file) {
			bound := func(d int) bool { return slices.Contains(decls, d) }
			if slices.ContainsFunc(w.Decls(api.Place{File: file, Token: n}), bound) {
				out += m.place(file, p.From) + "\n"
			}
		}
	}
	return out, api.OK
}

// TestModel: commands by chance, one behind the other, held against the model; Play of all the lines too.
func TestModel(t *testing.T) {
	var counts [16]map[string]int
	for seed := range 16 {
		t.Run("", func(t *testing.T) {
			t.Parallel()
			counts[seed] = played(t, chance(uint64(seed)))
		})
	}
	t.Cleanup(func() {
		met := map[string]int{}
		for _, c := range counts {
			for k, n := range c {
				met[k] += n
			}
		}
		for _, k := range []string{"files", "show", "put", "drop", "edit", "format", "check", "run", "outline", "find", "class", "fresh", "rename", "explain", "undo", "redo"} {
			if met[k] < 20 {
				t.Errorf("few: %s: %d", k, met[k])
			}
		}
		for _, k := range []string{"find 170", "class 172", "class 170", "rename 170", "rename 171", "rename 172", "rename 173", "rename 174", "edit 10", "format 30", "undo 191", "redo 191", "show 1", "find 1", "told a fault"} {
			if met[k] == 0 {
				t.Errorf("never met: %s", k)
			}
		}
	})
}

// played is how often each command was done, and each error was met.
func played(t *testing.T, r *rand.Rand) map[string]int {
	met := map[string]int{}
	given := base()
	d, m := desk.New(given), &model{states: [][]api.File{given}}
	var all []string
	for range 250 {
		o := someOrder(r, m.files())
		line := o.line(r)
		want, why := m.do(o)
		told, e := d.Do(line)
		if told != want || e != why || !slices.Equal(d.Files(), m.files()) {
			t.Fatalf("19.2: %q: %q, %d, not %q, %d: %.3000q", line, told, e, want, why, m.files())
		}
		all = append(all, line)
		switch {
		case e != api.OK:
			met[fmt.Sprintf("%s %d", o.word, e)]++
		case strings.HasPrefix(told, "errno"):
			met["told a fault"]++
		default:
			met[o.word]++
		}
		if _, f := xref.Open(m.files()); f.Why != api.OK && r.IntN(5) == 0 {
			m.do(order{word: "undo"})
			d.Do("undo")
			all = append(all, "undo")
		}
		if r.IntN(6) == 0 {
			all = append(all, pick(r, "", " ", "// x", "zz", "#", "undo 1"))
			d.Do(all[len(all)-1])
		}
	}
	text := strings.Join(all, "\n")
	if len(text) > api.MaxDesk {
		t.Fatalf("%d bytes", len(text))
	}
	want, end := playOf(given, text)
	told, l, e := desk.Play(given, text)
	if told != want || e != api.OK || !slices.Equal(l, end) || !slices.Equal(l, m.files()) {
		t.Errorf("19.9: %q, not %q", told, want)
	}
	return met
}

// TestAsking: 19.7: commands that only ask, or are refused, strewn between others, change nothing that is told or done later.
func TestAsking(t *testing.T) {
	r := chance(50)
	for range 10 {
		plain, strewn := desk.New(base()), desk.New(base())
		for range 60 {
			o := someOrder(r, plain.Files())
			line := o.line(r)
			for range r.IntN(4) {
				ask := someOrder(r, strewn.Files())
				switch ask.word {
				case "put", "drop", "edit", "format", "rename", "undo", "redo":
					ask.words = append(ask.words, ";") // no command
				}
				strewn.Do(ask.line(r))
			}
			told, e := plain.Do(line)
			if again, why := strewn.Do(line); told != again || e != why || !slices.Equal(plain.Files(), strewn.Files()) {
				t.Fatalf("19.7: %q: %q, %d, not %q, %d", line, again, why, told, e)
			}
		}
	}
}

// TestThereAndBack: 19.8 by chance: a rename, and the one back at the same identifier: what undo would have put there.
func TestThereAndBack(t *testing.T) {
	r := chance(51)
	done := 0
	for range 400 {
		given := base()
		d := desk.New(given)
		o := someOrder(r, given)
		if o.word != "rename" || o.file < 0 || o.offset < 0 {
			continue
		}
		l, e := rename.Rename(given, o.file, o.offset, o.to)
		told, why := d.Do(o.line(r))
		if e != why {
			t.Fatalf("19.2: %d, not %d", why, e)
		}
		if e != api.OK {
			continue
		}
		now, _ := rename.Apply(given, l)
		if !slices.Equal(d.Files(), now) || told != fmt.Sprintf("%d\n", len(l)) {
			t.Fatalf("19.8: %q", d.Files())
		}
		old := given[l[0].File].Text[l[0].Edit.From:l[0].Edit.To]
		f := now[o.file]
		tells(t, d, "rename "+wordPlace(f.Name, f.Text, rename.Back(l, o.file, o.offset))+" "+old, told)
		if !slices.Equal(d.Files(), given) {
			t.Fatalf("19.8: %q", d.Files())
		}
		tells(t, d, "undo", "")
		tells(t, d, "undo", "")
		if !slices.Equal(d.Files(), given) {
			t.Fatalf("19.8: %q", d.Files())
		}
		done++
	}
	if done < 10 {
		t.Errorf("few: %d", done)
	}
}
