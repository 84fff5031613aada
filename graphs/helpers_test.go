package graphs_test

import (
	"math/rand/v2"
	"slices"

	"moniker/api"
)

const most = 131072 // things there may be

func chance(seed uint64) *rand.Rand { return rand.New(rand.NewPCG(seed, 6)) }

// pairs are written as the chapter writes them: 0>1 1>2, or 0-1.
func pairs(s string) [][2]int {
	var out [][2]int
	var p [2]int
	end := 0
	for _, c := range s + " " {
		switch {
		case c >= '0' && c <= '9':
			p[end] = p[end]*10 + int(c-'0')
		case c == ' ' && end == 1:
			out = append(out, p)
			p, end = [2]int{}, 0
		case c != ' ':
			end = 1
		}
	}
	return out
}

// somePairs are pairs of n things by chance, some of them twice, some of a thing and itself.
func somePairs(r *rand.Rand, n, many int) [][2]int {
	var out [][2]int
	for range many {
		if len(out) > 0 && r.IntN(5) == 0 {
			out = append(out, out[r.IntN(len(out))])
			continue
		}
		out = append(out, [2]int{r.IntN(n), r.IntN(n)})
	}
	return out
}

// The calls by the chapter's words, without a thought of how long they take.

func wordNeeds(edges [][2]int, a, b int) bool { return slices.Contains(edges, [2]int{a, b}) }

func wordReach(n int, edges [][2]int, from int) []int {
	in := make([]bool, n)
	in[from] = true
	for range n {
		for _, e := range edges {
			in[e[1]] = in[e[1]] || in[e[0]]
		}
	}
	var out []int
	for x := range n {
		if in[x] {
			out = append(out, x)
		}
	}
	return out
}

func wordOnCycle(n int, edges [][2]int, x int) bool {
	return slices.ContainsFunc(edges, func(e [2]int) bool {
		return e[0] == x && slices.Contains(wordReach(n, edges, e[1]), x)
	})
}

func wordOrder(n int, edges [][2]int) ([]int, []int, api.Errno) {
	for x := range n {
		if wordOnCycle(n, edges, x) {
			return nil, wordCycle(n, edges, x), api.ErrCycle
		}
	}
	var out []int
	for len(out) < n {
		for x := range n {
			behind := func(e [2]int) bool { return e[0] != x || slices.Contains(out, e[1]) }
			if !slices.Contains(out, x) && !slices.ContainsFunc(edges, func(e [2]int) bool { return !behind(e) }) {
				out = append(out, x)
				break
			}
		}
	}
	return out, nil, api.OK
}

// wordCycle tries all lists, the short ones first, those of one length by their numbers.
func wordCycle(n int, edges [][2]int, first int) []int {
	var try func(list []int, more int) []int
	try = func(list []int, more int) []int {
		last := list[len(list)-1]
		if more == 0 {
			if wordNeeds(edges, last, first) {
				return list
			}
			return nil
		}
		for x := range n {
			if wordNeeds(edges, last, x) {
				if got := try(append(slices.Clone(list), x), more-1); got != nil {
					return got
				}
			}
		}
		return nil
	}
	for length := 0; ; length++ {
		if got := try([]int{first}, length); got != nil {
			return got
		}
	}
}

func wordPart(n int, edges [][2]int, x int) []int {
	return slices.DeleteFunc(wordReach(n, edges, x), func(y int) bool {
		return !slices.Contains(wordReach(n, edges, y), x)
	})
}

func wordParts(n int, edges [][2]int) [][]int {
	var out [][]int
	told := func(x int) bool {
		return slices.ContainsFunc(out, func(part []int) bool { return slices.Contains(part, x) })
	}
	may := func(part []int) bool {
		return !slices.ContainsFunc(edges, func(e [2]int) bool {
			return slices.Contains(part, e[0]) && !slices.Contains(part, e[1]) && !told(e[1])
		})
	}
	for again := true; again; {
		again = false
		for x := range n {
			if part := wordPart(n, edges, x); !told(x) && may(part) {
				out, again = append(out, part), true
				break
			}
		}
	}
	return out
}

func wordClasses(n int, ties [][2]int) []int {
	out := make([]int, n)
	for x := range n {
		out[x] = x
	}
	for range n {
		for _, t := range ties {
			low := min(out[t[0]], out[t[1]])
			out[t[0]], out[t[1]] = low, low
		}
	}
	return out
}
