package lists_test

import (
	"math"
	"slices"
	"testing"

	"oxgall/lists"
)

func TestFirstAndEvery(t *testing.T) {
	even := func(n int) bool { return n%2 == 0 }
	for i, x := range []struct {
		list  []int
		first int
		every bool
	}{
		{nil, 0, true},
		{[]int{1}, 1, false},
		{[]int{2}, 0, true},
		{[]int{1, 2, 4}, 1, false},
		{[]int{2, 4, 3}, 0, false},
		{[]int{3, 5, 8}, 2, false},
		{[]int{8, 6, 6}, 0, true},
	} {
		if n := lists.First(x.list, even); n != x.first {
			t.Error(i, n)
		}
		if every := lists.Every(x.list, even); every != x.every {
			t.Error(i, every)
		}
	}
}

func TestLeast(t *testing.T) {
	for i, x := range []struct {
		list  []string
		least string
		some  bool
	}{
		{nil, "", false},
		{[]string{""}, "", true},
		{[]string{"red"}, "red", true},
		{[]string{"red", "blue", "grey"}, "red", true},
		{[]string{"green", "blue", "grey", "black"}, "blue", true},
		{[]string{"green", "brown", "white"}, "green", true},
	} {
		shorter := func(one, two string) bool { return len(one) < len(two) }
		if least, some := lists.Least(slices.Values(x.list), shorter); least != x.least || some != x.some {
			t.Error(i, least, some)
		}
	}
}

func TestTwiceAndRising(t *testing.T) {
	for i, x := range []struct {
		list          []int
		twice, rising bool
	}{
		{nil, false, true},
		{[]int{7}, false, true},
		{[]int{7, 7}, true, false},
		{[]int{3, 5, 3}, true, false},
		{[]int{5, 3}, false, false},
		{[]int{math.MinInt, 0, math.MaxInt}, false, true},
		{[]int{1, 2, 2}, true, false},
		{[]int{1, 4, 3}, false, false},
	} {
		if twice := lists.Twice(x.list); twice != x.twice {
			t.Error(i, twice)
		}
		var minutes []int64
		for _, n := range x.list {
			minutes = append(minutes, int64(n))
		}
		if rising := lists.Rising(x.list); rising != x.rising || lists.Rising(minutes) != rising {
			t.Error(i, rising)
		}
	}
}

func TestWithin(t *testing.T) {
	for i, x := range []struct {
		low, high int64
		numbers   []int64
		within    bool
	}{
		{1, 3, nil, true},
		{1, 3, []int64{1, 2, 3}, true},
		{1, 3, []int64{0}, false},
		{1, 3, []int64{2, 4}, false},
		{3, 1, []int64{2}, false},
		{math.MinInt64, math.MaxInt64, []int64{math.MinInt64, math.MaxInt64}, true},
	} {
		var cells []int
		for _, n := range x.numbers {
			cells = append(cells, int(n))
		}
		within := lists.Within(x.low, x.high, x.numbers...)
		if within != x.within || lists.Within(int(x.low), int(x.high), cells...) != within {
			t.Error(i, within)
		}
	}
}

func TestIsOrder(t *testing.T) {
	for i, x := range []struct {
		list   []int
		length int
		order  bool
	}{
		{nil, 0, true},
		{nil, 1, false},
		{[]int{0}, 1, true},
		{[]int{1}, 1, false},
		{[]int{2, 0, 1}, 3, true},
		{[]int{0, 1}, 3, false},
		{[]int{0, 1, 2, 0}, 3, false},
		{[]int{0, 1, 1}, 3, false},
		{[]int{0, 1, 3}, 3, false},
		{[]int{0, -1, 1}, 3, false},
		{[]int{math.MinInt, math.MaxInt}, 2, false},
		{make([]int, 70000), 3, false},
	} {
		if order := lists.IsOrder(x.list, x.length); order != x.order {
			t.Error(i, order)
		}
	}
}

func TestMarked(t *testing.T) {
	for i, x := range []struct {
		marks []bool
		out   []int
	}{
		{nil, nil},
		{[]bool{false, false}, nil},
		{[]bool{true, false, false, true, true}, []int{0, 3, 4}},
	} {
		if out := lists.Marked(x.marks); !slices.Equal(out, x.out) {
			t.Error(i, out)
		}
	}
}
