package consts_test

import (
	"strings"
	"sync"
	"testing"
	"unsafe"

	"moniker/api"
	"moniker/consts"
)

// apart tells whether no byte of a text is one of another's.
func apart(a, b string) bool {
	x, y := uintptr(unsafe.Pointer(unsafe.StringData(a))), uintptr(unsafe.Pointer(unsafe.StringData(b)))
	return a == "" || b == "" || x+uintptr(len(a)) <= y || y+uintptr(len(b)) <= x
}

// TestNewTexts: texts that are answered share no bytes with what was handed in, nor with each other (8.7, P4).
func TestNewTexts(t *testing.T) {
	given, quoted := strings.Repeat("given ", 4), `"quoted \n text"`
	empty, whole := text(""), text(given)
	for _, pair := range [][2]api.Val{{empty, whole}, {whole, empty}, {whole, whole}} {
		if v, _ := consts.Binary(api.TokAdd, pair[0], pair[1]); !strings.Contains(v.Text, given) || !apart(v.Text, given) {
			t.Error("8.7: + answers a part of its operand")
		}
	}
	plain := `"plain"`
	for _, s := range []string{quoted, plain} {
		if v, e := consts.Literal(api.TokText, s); e != api.OK || !apart(v.Text, s) {
			t.Errorf("8.7: Literal(%s) answers a part of it", s)
		}
		if v, e := consts.Read(s); e != api.OK || !apart(v.Text, s) {
			t.Errorf("8.7: Read(%s) answers a part of it", s)
		}
	}
	for _, v := range []api.Val{truth(true), truth(false), number(0), number(42), number(-1 << 63), empty, whole} {
		if a, b := consts.Show(v), consts.Show(v); a != b || !apart(a, b) || !apart(a, given) {
			t.Errorf("8.7: two of Show(%+v) share their bytes", v)
		}
	}
}

// TestSameAnswers: an answer hangs on the arguments alone, whoever asks at the same time (P5), and the bounds stand.
func TestSameAnswers(t *testing.T) {
	var wait sync.WaitGroup
	for range 4 {
		wait.Go(func() {
			for range 200 {
				for _, a := range []int64{-1 << 63, -1, 1, 1<<63 - 1} {
					if wrong := wrongNumbers(a, 1<<63-1) + wrongNumbers(a, -1<<63); wrong != "" {
						t.Error(wrong)
					}
				}
			}
		})
	}
	wait.Wait()
}
