package edits_test

import (
	"math"
	"math/rand/v2"
	"slices"
	"strings"
	"testing"

	"moniker/api"
	"moniker/edits"
)

func TestPrint(t *testing.T) {
	for _, c := range []struct {
		l    []api.Edit
		want string
	}{
		{nil, ""},
		{list(edit(0, 3, "a\"b\\\n")), `0,3 "a\"b\\\n"` + "\n"},
		{list(edit(1, 2, ""), edit(10, 200, "\r\t\x00\xff é")), "1,2 \"\"\n10,200 \"\r\t\x00\xff é\"\n"},
		{list(edit(-5, math.MinInt, "x"), edit(math.MaxInt, 0, "y")), "-5,-9223372036854775808 \"x\"\n9223372036854775807,0 \"y\"\n"},
		{make([]api.Edit, api.MaxEdits), strings.Repeat("0,0 \"\"\n", api.MaxEdits)},
		{make([]api.Edit, api.MaxEdits+1), ""},
	} {
		if got := edits.Print(c.l); got != c.want {
			t.Errorf("1.8: Print of %d edits = %.80q, want %.80q", len(c.l), got, c.want)
		}
	}
}

func TestParse(t *testing.T) {
	for _, c := range []struct {
		text string
		want []api.Edit
	}{
		{"", nil},
		{`0,3 "a\"b\\\n"` + "\n", list(edit(0, 3, "a\"b\\\n"))},
		{"7,-7 \"\"\n0,0 \"\r\xff\"\n", list(edit(7, -7, ""), edit(0, 0, "\r\xff"))},
		{"-9223372036854775808,9223372036854775807 \"\"\n", list(edit(math.MinInt, math.MaxInt, ""))},
		{strings.Repeat("0,0 \"\"\n", api.MaxEdits), make([]api.Edit, api.MaxEdits)},
	} {
		got, why, at := edits.Parse(c.text)
		if !slices.Equal(got, c.want) || why != api.OK || at != 0 {
			t.Errorf("1.9: Parse(%.80q) = %d edits, %d at %d", c.text, len(got), why, at)
		}
	}
}

func TestParseRefuses(t *testing.T) {
	for _, c := range []struct {
		text string
		at   int
	}{
		{`0,3 ""`, 6}, {"00,3", 1}, {"-0", 1}, {"-", 1}, {"--1", 1}, {"+1", 0}, {"x", 0}, {" 1", 0}, {"\n", 0}, {",", 0},
		{"9223372036854775808", 18}, {"9223372036854775807", 19}, {"92233720368547758070", 19},
		{"-9223372036854775808,", 21}, {"-9223372036854775809", 19}, {"-92233720368547758080", 20},
		{"1,9223372036854775808", 20}, {"99999999999999999999999999", 18},
		{"1", 1}, {"1 ", 1}, {"1,", 2}, {"1,-", 3}, {"1,,", 2}, {"1,01", 3}, {"1,2", 3}, {"1,2\n", 3}, {"1,2  \"", 4}, {"1,2 x", 4},
		{`1,2 "`, 5}, {`1,2 "\x`, 6}, {`1,2 "\`, 6}, {`1,2 "\r`, 6}, {"1,2 \"\\\n", 6}, {"1,2 \"a\nb\"\n", 6},
		{`1,2 "" `, 6}, {"1,2 \"\"\r\n", 6}, {"1,2 \"\"\n\n", 7}, {"1,2 \"\"\n3", 8}, {"1,2 \"\"\n3,4 \"\"x", 13},
	} {
		if got, why, at := edits.Parse(c.text); len(got) != 0 || why != api.ErrEdit || at != c.at {
			t.Errorf("1.9: Parse(%q) = %d edits, %d at %d, want ErrEdit at %d", c.text, len(got), why, at, c.at)
		}
	}
}

func TestParseCounts(t *testing.T) {
	full := strings.Repeat("0,0 \"\"\n", api.MaxEdits)
	for _, tail := range []string{"0,0 \"\"\n", "x", "\n"} {
		if got, why, at := edits.Parse(full + tail); len(got) != 0 || why != api.ErrMany || at != len(full) {
			t.Errorf("1.9: %q behind MaxEdits lines: %d edits, %d at %d", tail, len(got), why, at)
		}
	}
	wrong := full[:len(full)-7] + "0,0 x\n" + full
	if _, why, at := edits.Parse(wrong); why != api.ErrEdit || at != len(full)-7+4 {
		t.Errorf("1.9: a wrong line among the first MaxEdits: %d at %d", why, at)
	}
	if _, why, at := edits.Parse(full[:len(full)-1]); why != api.ErrEdit || at != len(full)-1 {
		t.Errorf("1.9: an end ahead of the last line feed: %d at %d", why, at)
	}
}

// TestParseFaultPlaces: a byte is right as long as some end makes a printed list of all up to it.
func TestParseFaultPlaces(t *testing.T) {
	tails := []string{"", "1", ",1 \"\"\n", "1,1 \"\"\n", "1 \"\"\n", " \"\"\n", "\"\"\n", "\"\n", "\\\"\n", "\n"}
	begins := func(s string) bool {
		for _, tail := range tails {
			if _, why, _ := edits.Parse(s + tail); why == api.OK {
				return true
			}
		}
		return false
	}
	r := rand.New(rand.NewPCG(1, 9))
	for range 20000 {
		var s []byte
		for range r.IntN(14) {
			s = append(s, "0123,,  \"\"\\n-\n"[r.IntN(14)])
		}
		text := string(s)
		_, why, at := edits.Parse(text)
		if why == api.OK {
			continue
		}
		if !begins(text[:at]) || at < len(text) && begins(text[:at+1]) {
			t.Fatalf("1.9: Parse(%q): %d at %d", text, why, at)
		}
	}
}

func TestPrintAndParse(t *testing.T) {
	r := rand.New(rand.NewPCG(1, 16))
	for range 3000 {
		var l []api.Edit
		for range r.IntN(5) {
			var text []byte
			for range r.IntN(9) {
				text = append(text, byte(r.IntN(256)))
			}
			l = append(l, edit(int(r.Uint64()>>r.IntN(64)), -int(r.Uint64()>>r.IntN(64)), string(text)+"\\\"\n"))
		}
		s := edits.Print(l)
		got, why, at := edits.Parse(s)
		if !slices.Equal(got, l) || why != api.OK || at != 0 {
			t.Fatalf("1.16: Parse(Print(l)) of %q: %d at %d", s, why, at)
		}
	}
	for range 20000 {
		s := edits.Print(someList(r, 30))
		if s != "" {
			k := r.IntN(len(s))
			s = s[:k] + string([]byte{byte(r.IntN(256))}) + s[k+1:]
		}
		if l, why, _ := edits.Parse(s); why == api.OK && edits.Print(l) != s {
			t.Fatalf("1.16: Print(Parse(s)) of %q is %q", s, edits.Print(l))
		}
	}
}
