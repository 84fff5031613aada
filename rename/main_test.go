package rename_test

import (
	"os"
	"runtime/debug"
	"testing"
)

// TestMain lets the heap grow: programs are read so often that most of the time would go into small collections.
func TestMain(m *testing.M) {
	debug.SetGCPercent(400)
	os.Exit(m.Run())
}
