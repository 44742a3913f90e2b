package comb

// first returns the index of the first element that is good, or the length of the list if none is.
func first[T any](list []T, good func(T) bool) int {
	for i, x := range list {
		if good(x) {
			return i
		}
	}
	return len(list)
}

// within tells whether all numbers are from low to high.
func within(low, high int64, numbers ...int64) bool {
	beyond := func(n int64) bool { return n < low || n > high }
	return first(numbers, beyond) == len(numbers)
}

// twice tells whether two elements are equal.
func twice[T comparable](list []T) bool {
	for i, x := range list {
		if first(list, func(y T) bool { return x == y }) < i {
			return true
		}
	}
	return false
}
