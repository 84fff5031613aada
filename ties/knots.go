package ties

import (
	"maps"
	"slices"
)

// knots are pairs of unlike declarations that are tied at once, the lower number first.
type knots map[[2]int]struct{}

func knot(a, b int) [2]int { return [2]int{min(a, b), max(a, b)} }

// cross ties each of a list to each of another.
func (k knots) cross(a, b []int) {
	for _, x := range a {
		for _, y := range b {
			if x != y {
				k[knot(x, y)] = struct{}{}
			}
		}
	}
}

// list are the knots, rising by the first number and then by the second.
func (k knots) list() [][2]int {
	out := slices.Collect(maps.Keys(k))
	slices.SortFunc(out, func(a, b [2]int) int { return slices.Compare(a[:], b[:]) })
	return out
}

// ends are for each declaration those that it is tied to, rising.
func (k knots) ends() map[int][]int {
	out := map[int][]int{}
	for _, pair := range k.list() {
		// The lower ones come ahead of the higher ones, as the pairs rise by their first numbers.
		out[pair[0]] = append(out[pair[0]], pair[1])
		out[pair[1]] = append(out[pair[1]], pair[0])
	}
	return out
}

// spread joins knot by knot all that hangs on a declaration: these, the nearest first, and by how many ties each is off. What was joined is deleted: from its other end it leads nowhere new.
func (k knots) spread(from int, ends map[int][]int) ([]int, map[int]int) {
	class, far := []int{from}, map[int]int{from: 0}
	for i := 0; i < len(class); i++ {
		for _, next := range ends[class[i]] {
			pair := knot(class[i], next)
			if _, open := k[pair]; !open {
				continue
			}
			delete(k, pair)
			if _, ok := far[next]; !ok {
				far[next] = far[class[i]] + 1
				class = append(class, next)
			}
		}
	}
	return class, far
}
