// Package lists tells what all layers ask of lists, sets and numbers.
package lists

import (
	"cmp"
	"iter"
)

// First returns the index of the first element that is good, or the length of the list if none is.
func First[T any](list []T, good func(T) bool) int {
	for i, x := range list {
		if good(x) {
			return i
		}
	}
	return len(list)
}

// Least returns the first one of several that no other one comes before, and
// whether there is any.
func Least[T any](several iter.Seq[T], before func(one, two T) bool) (T, bool) {
	var best T
	some := false
	for x := range several {
		if !some || before(x, best) {
			best, some = x, true
		}
	}
	return best, some
}

// Every tells whether all elements are good.
func Every[T any](list []T, good func(T) bool) bool {
	bad := func(x T) bool { return !good(x) }
	return First(list, bad) == len(list)
}

// Twice tells whether two elements are equal.
func Twice[T comparable](list []T) bool {
	for i, x := range list {
		if First(list, func(y T) bool { return x == y }) < i {
			return true
		}
	}
	return false
}

// Within tells whether all numbers are from low to high.
func Within[T cmp.Ordered](low, high T, numbers ...T) bool {
	return Every(numbers, func(n T) bool { return low <= n && n <= high })
}

// Rising tells whether each element is greater than the one before it.
func Rising[T cmp.Ordered](list []T) bool {
	for i := 1; i < len(list); i++ {
		if list[i] <= list[i-1] {
			return false
		}
	}
	return true
}

// IsOrder tells whether a list is all indexes below a length, each once.
func IsOrder(list []int, length int) bool {
	isIndex := func(n int) bool { return 0 <= n && n < length }
	return len(list) == length && Every(list, isIndex) && !Twice(list)
}

// Marked returns the indexes that are marked, increasing.
func Marked(marks []bool) []int {
	var out []int
	for i, is := range marks {
		if is {
			out = append(out, i)
		}
	}
	return out
}
