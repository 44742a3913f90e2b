package lists

import (
	"iter"
	"slices"
)

// Orders yields those orders of all indexes below a length of which each beginning
// is good, in lexicographic order, each one in memory of its own.
func Orders(length int, good func(begin []int) bool) iter.Seq[[]int] {
	return func(yield func([]int) bool) {
		var grow func(begin []int) bool
		grow = func(begin []int) bool {
			if len(begin) == length {
				return yield(begin)
			}
			for next := range length {
				if slices.Contains(begin, next) {
					continue
				}
				// Several orders begin with the same indexes, so their capacity is cut.
				longer := append(begin[:len(begin):len(begin)], next)
				if good(longer) && !grow(longer) {
					return false
				}
			}
			return true
		}
		grow(nil)
	}
}
