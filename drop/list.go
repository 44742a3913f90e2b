package drop

// first returns the index of the first element that is good, or the length of the list if none is.
func first[T any](list []T, good func(T) bool) int {
	for i, x := range list {
		if good(x) {
			return i
		}
	}
	return len(list)
}

// every tells whether all elements are good.
func every[T any](list []T, good func(T) bool) bool {
	bad := func(x T) bool { return !good(x) }
	return first(list, bad) == len(list)
}

// twice tells whether two elements are equal.
func twice[T comparable](list []T) bool {
	for i, x := range list {
		if first(list, func(y T) bool { return x == y }) < i {
			return true
		}
	}
	return false
}

// within tells whether all numbers are from low to high.
func within(low, high int64, numbers ...int64) bool {
	return every(numbers, func(n int64) bool { return low <= n && n <= high })
}

// rising tells whether each number is greater than the one before it.
func rising(list []int) bool {
	for i := 1; i < len(list); i++ {
		if list[i] <= list[i-1] {
			return false
		}
	}
	return true
}
