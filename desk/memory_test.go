package desk_test

import (
	"fmt"
	"math/rand/v2"
	"slices"
	"strings"
	"sync"
	"testing"
	"unsafe"

	"moniker/api"
	"moniker/desk"
)

func spoil[T any](l []T, with T) {
	l = l[:cap(l)]
	for i := range l {
		l[i] = with
	}
}

// TestNil: of no desk.
func TestNil(t *testing.T) {
	var d *desk.Desk
	for _, line := range []string{"", "check", "undo", "zz", "#", `show "a"`, strings.Repeat(" ", api.MaxDesk+1)} {
		if told, e := d.Do(line); told != "" || e != api.OK {
			t.Errorf("19.5: %.20q: %q, %d", line, told, e)
		}
	}
	if l := d.Files(); len(l) > 0 {
		t.Errorf("19.5: %v", l)
	}
}

// TestNew: any files, and nothing to be taken back.
func TestNew(t *testing.T) {
	many := make([]api.File, 300)
	for i := range many {
		many[i] = api.File{Name: fmt.Sprint(i % 7), Text: fmt.Sprint(i)}
	}
	for _, given := range [][]api.File{nil, {}, make([]api.File, 3), base(), many, {{Name: "\xff\x00", Text: "\xfe"}}} {
		d := desk.New(given)
		if d == nil || !slices.Equal(d.Files(), given) {
			t.Fatalf("19.1: %.200q", given)
		}
		refuses(t, d, "undo", api.ErrEmpty)
		refuses(t, d, "redo", api.ErrEmpty)
	}
	d := desk.New(many)
	tells(t, d, "check", `errno 2 "1":1:1`+"\n") // the file of number 64
	tells(t, d, `show "3"`, "3")
	tells(t, d, `drop "3"`, "")
	tells(t, d, `show "3"`, "10")
	tells(t, d, `find "3":1:2`, `errno 2 "2":1:1`+"\n")
	refuses(t, d, `rename "3":1:2 x`, api.ErrMany)
	tells(t, d, "undo", "")
	if !slices.Equal(d.Files(), many) {
		t.Error("19.6: other files")
	}
}

// TestNotKept: P4, 19.5: what was handed in stays as it is, and may be written over then, even its bytes.
func TestNotKept(t *testing.T) {
	given := append(make([]api.File, 0, 8), base()...)
	spoil(given[len(given):], api.File{Name: "spare"})
	var bytes [][]byte
	for i, f := range given {
		name, text := []byte(f.Name), []byte(f.Text)
		given[i] = api.File{Name: unsafe.String(&name[0], len(name)), Text: unsafe.String(&text[0], len(text))}
		bytes = append(bytes, name, text)
	}
	d := desk.New(given)
	line := []byte("rename \"x/t\":1:17 Point")
	if told, e := d.Do(unsafe.String(&line[0], len(line))); told != "3\n" || e != api.OK {
		t.Errorf("19.2: %q, %d", told, e)
	}
	put := []byte("put `plain` `text`")
	d.Do(unsafe.String(&put[0], len(put)))
	if !slices.Equal(given, base()) || given[:4][3].Name != "spare" {
		t.Error("P4: the files were changed")
	}
	for _, l := range append(bytes, line, put) {
		spoil(l, '#')
	}
	spoil(given, api.File{})
	tells(t, d, `show "plain"`, "text")
	tells(t, d, "undo", "")
	tells(t, d, "check", "ok\n")
	tells(t, d, `show "x/t"`, strings.ReplaceAll(base()[1].Text, "T", "Point"))
	tells(t, d, "undo", "")
	if !slices.Equal(d.Files(), base()) {
		t.Errorf("P4: %q", d.Files())
	}

	given = append(make([]api.File, 0, 8), base()...)
	spoil(given[len(given):], api.File{Name: "spare"})
	_, l, _ := desk.Play(given, "put \"z\" \"\"\ndrop \"main\"")
	if !slices.Equal(given, base()) || given[:4][3].Name != "spare" || len(l) != 3 {
		t.Error("P4: the files were changed by Play")
	}
	spoil(l, api.File{})
	if !slices.Equal(given, base()) {
		t.Error("P4: Play's answer shares memory with the files")
	}
}

// TestNewMemory: P4: the files that are told are written over between commands.
func TestNewMemory(t *testing.T) {
	r := chance(60)
	d, other := desk.New(base()), desk.New(base())
	for range 150 {
		line := someOrder(r, other.Files()).line(r)
		told, e := d.Do(line)
		again, why := other.Do(line)
		l := d.Files()
		if told != again || e != why || !slices.Equal(l, other.Files()) {
			t.Fatalf("P4: %q: %q, %d, not %q, %d", line, told, e, again, why)
		}
		_ = append(l, api.File{Name: "more"})
		spoil(l, api.File{Name: "spoilt", Text: "#"})
	}
}

// TestTurns: two desks in turns, one of which does other things: the first is as it is alone.
func TestTurns(t *testing.T) {
	r := chance(61)
	alone, one, two := desk.New(base()), desk.New(base()), desk.New(base())
	for range 150 {
		line := someOrder(r, alone.Files()).line(r)
		told, e := alone.Do(line)
		if again, why := one.Do(line); told != again || e != why {
			t.Fatalf("19.5: %q: %q, %d, not %q, %d", line, again, why, told, e)
		}
		two.Do(someOrder(r, two.Files()).line(r))
	}
	if !slices.Equal(alone.Files(), one.Files()) {
		t.Error("19.5: other files")
	}
}

// TestTogether: desks that are told things at the same time.
func TestTogether(t *testing.T) {
	var group sync.WaitGroup
	var told [8]string
	for n := range told {
		group.Go(func() {
			d, r := desk.New(base()), chance(62)
			for range 80 {
				line := someOrder(r, d.Files()).line(r)
				s, e := d.Do(line)
				told[n] += fmt.Sprintln(line, s, e, d.Files())
			}
		})
	}
	group.Wait()
	for _, s := range told {
		if s != told[0] {
			t.Error("P5: other answers")
		}
	}
}

// TestAnyBytes: P1: any lines and texts, on any files; an error changes nothing and tells nothing.
func TestAnyBytes(t *testing.T) {
	r := chance(63)
	d := desk.New(base())
	for range 4000 {
		line := someBytes(r, d.Files())
		before := d.Files()
		told, e := d.Do(line)
		if e != api.OK && (told != "" || !slices.Equal(before, d.Files())) {
			t.Fatalf("P2: %q: %q, %d", line, told, e)
		}
		if len(d.Files()) > 12 {
			d = desk.New(base())
		}
		if r.IntN(40) == 0 {
			text := line + "\n" + someBytes(r, before) + "\n" + someBytes(r, before)
			if _, l, e := desk.Play(before, text); e != api.OK && len(l) > 0 {
				t.Fatalf("P2: %q: %d", text, e)
			}
		}
	}
}

// someBytes is a command's line in which some bytes are others, or a part of it is elsewhere.
func someBytes(r *rand.Rand, now []api.File) string {
	line := []byte(someOrder(r, now).line(r))
	for range 1 + r.IntN(3) {
		i, k := r.IntN(len(line)), r.IntN(len(line))
		switch r.IntN(4) {
		case 0:
			line[i] = byte(r.IntN(256))
		case 1:
			line[i] = line[k]
		case 2:
			line = slices.Insert(line, i, "\"`:\n /*;#0a\xff\x00"[r.IntN(13)])
		case 3:
			line = append(line[:i:i], line[min(i, k):]...)
		}
		if len(line) == 0 {
			line = []byte("files")
		}
	}
	return string(line)
}
