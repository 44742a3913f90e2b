package stroke

import (
	"slices"

	"oxgall/lists"
)

// spine returns a longest spine of a short form.
func spine(short []int, exchange func(one, two int) bool) []int {
	longer := func(one, two []int) bool { return len(one) > len(two) }
	var ends [][]int // for each stroke a longest spine that ends with it
	for i, stroke := range short {
		continued := func(yield func([]int) bool) {
			for j, end := range ends {
				if !exchange(short[j], stroke) && !yield(end) {
					return
				}
			}
		}
		end, _ := lists.Least(continued, longer)
		// Several spines can continue the same one, so its capacity is cut.
		ends = append(ends, append(end[:len(end):len(end)], i))
	}
	longest, _ := lists.Least(slices.Values(ends), longer)
	return longest
}

// set is a set of strokes of a short form, by their indexes.
type set struct {
	bits uint32
}

func (s set) with(i int) set { return set{s.bits | 1<<i} }

func (s set) contains(other set) bool { return s.bits&other.bits == other.bits }

// orders returns how many lists go over into a short form by exchanges. Sets of
// strokes that can be drawn first, in some order, are looked at by how many
// strokes they have, so that all orders of a set are counted before it is left.
func orders(short []int, exchange func(one, two int) bool) int64 {
	var all set
	earlier := make([]set, len(short)) // the strokes that have to be drawn before each one
	for i, stroke := range short {
		all = all.with(i)
		for j, other := range short[:i] {
			if !exchange(stroke, other) {
				earlier[i] = earlier[i].with(j)
			}
		}
	}
	counts := map[set]int64{{}: 1}
	open := []set{{}}
	for open[0] != all {
		drawn := open[0]
		open = open[1:]
		for i := range short {
			next := drawn.with(i)
			if next == drawn || !drawn.contains(earlier[i]) {
				continue
			}
			if _, found := counts[next]; !found {
				open = append(open, next)
			}
			counts[next] += counts[drawn]
		}
		delete(counts, drawn)
	}
	return counts[all]
}
