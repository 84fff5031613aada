package graphs

import (
	"cmp"
	"container/heap"
	"slices"
)

// walker gives a walk from a thing to all that are reached from it, but for what an earlier walk came to; each is told when all that it needs has been.
func walker(needs [][]int32, tell func(int)) func(int) {
	met := make([]bool, len(needs))
	var walk func(int)
	walk = func(x int) {
		if met[x] {
			return
		}
		met[x] = true
		for _, y := range needs[x] {
			walk(int(y))
		}
		tell(x)
	}
	return walk
}

// lowests are for each thing the lowest one of its part: walked against the edges from what was told last, a walk that has not been there yet comes to just one part.
func lowests(needs, needed [][]int32) []int {
	var told, part []int
	walk := walker(needs, func(x int) { told = append(told, x) })
	for x := range needs {
		walk(x)
	}
	low := make([]int, len(needs))
	back := walker(needed, func(x int) { part = append(part, x) })
	for _, x := range slices.Backward(told) {
		part = part[:0]
		back(x)
		for _, y := range rising(part) {
			low[y] = part[0]
		}
	}
	return low
}

// row is a heap of things of which the lowest comes first.
type row []int

func (r row) Len() int           { return len(r) }
func (r row) Less(i, j int) bool { return r[i] < r[j] }
func (r row) Swap(i, j int)      { r[i], r[j] = r[j], r[i] }
func (r *row) Push(x any)        { *r = append(*r, x.(int)) }

func (r *row) Pop() any {
	last := len(*r) - 1
	x := (*r)[last]
	*r = (*r)[:last]
	return x
}

// lineUp puts each thing behind what it needs, always the lowest that may come; what is on a cycle, or needs what is, never may.
func lineUp(needs, needed [][]int32) []int {
	var ready row
	missing := make([]int, len(needs))
	for x, l := range needs {
		missing[x] = len(l)
		if len(l) == 0 {
			ready = append(ready, x) // rising, so a heap already
		}
	}
	var out []int
	for len(ready) > 0 {
		x := heap.Pop(&ready).(int)
		out = append(out, x)
		for _, y := range needed[x] {
			missing[y]--
			if missing[y] == 0 {
				heap.Push(&ready, int(y))
			}
		}
	}
	return out
}

// cycle is the shortest one through the lowest thing that is on any, of these the one with the lowest numbers from the left; there must be one.
func cycle(needs, needed [][]int32) []int {
	first := onCycle(needs, lowests(needs, needed))
	far := farFrom(needed, first)
	nearest := func(x int) int {
		return int(slices.MinFunc(needs[x], func(y, z int32) int { return cmp.Compare(far[y], far[z]) }))
	}
	out := []int{first}
	for x := nearest(first); x != first; x = nearest(x) {
		out = append(out, x)
	}
	return out
}

// onCycle is the lowest thing that is on a cycle: it needs itself, or another one is in its part.
func onCycle(needs [][]int32, low []int) int {
	others := make([]int, len(low))
	for x, l := range low {
		if l != x {
			others[l]++
		}
	}
	x := 0
	for others[x] == 0 && !slices.Contains(needs[x], int32(x)) {
		x++
	}
	return x
}

// farFrom are for each thing the edges of the shortest way to it; what is not come to is farther than all else.
func farFrom(needs [][]int32, from int) []int {
	far := make([]int, len(needs))
	for x := range far {
		far[x] = len(needs)
	}
	far[from] = 0
	next := []int{from}
	for i := 0; i < len(next); i++ {
		x := next[i]
		for _, y := range needs[x] {
			if far[y] == len(needs) {
				far[y] = far[x] + 1
				next = append(next, int(y))
			}
		}
	}
	return far
}
