package desk

import (
	"strconv"
	"strings"

	"moniker/api"
)

// line is one of these words, a blank between two.
func line(words ...string) string { return strings.Join(words, " ") + "\n" }

// refusal is the line of an error, and of what stands behind it.
func refusal(why api.Errno, words ...string) string {
	return line(append([]string{"errno", number(int(why))}, words...)...)
}

func number(n int) string { return strconv.Itoa(n) }
