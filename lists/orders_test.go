package lists_test

import (
	"slices"
	"testing"

	"oxgall/lists"
)

func TestOrders(t *testing.T) {
	any := func([]int) bool { return true }
	evenFirst := func(begin []int) bool { return begin[0]%2 == 0 }
	notUp := func(begin []int) bool { return len(begin) < 3 || begin[1] > begin[2] }
	for i, x := range []struct {
		length int
		good   func(begin []int) bool
		orders [][]int
	}{
		{0, any, [][]int{{}}},
		{1, any, [][]int{{0}}},
		{3, any, [][]int{{0, 1, 2}, {0, 2, 1}, {1, 0, 2}, {1, 2, 0}, {2, 0, 1}, {2, 1, 0}}},
		{3, evenFirst, [][]int{{0, 1, 2}, {0, 2, 1}, {2, 0, 1}, {2, 1, 0}}},
		{3, notUp, [][]int{{0, 2, 1}, {1, 2, 0}, {2, 1, 0}}},
		{3, func(begin []int) bool { return len(begin) < 3 }, nil},
	} {
		orders := slices.Collect(lists.Orders(x.length, x.good))
		if !slices.EqualFunc(orders, x.orders, slices.Equal[[]int]) {
			t.Error(i, orders)
		}
	}
}

// There are as many orders as there have to be, and all are different.
func TestAllOrders(t *testing.T) {
	last, many := []int(nil), 0
	for order := range lists.Orders(7, func([]int) bool { return true }) {
		if !lists.IsOrder(order, 7) || slices.Compare(last, order) >= 0 {
			t.Fatal(last, order)
		}
		last = order
		many++
	}
	if many != 5040 {
		t.Error(many)
	}
}

// A loop over orders can be left, and what is written into one of them changes no other one.
func TestOrdersLeft(t *testing.T) {
	var seen [][]int
	for order := range lists.Orders(4, func([]int) bool { return true }) {
		seen = append(seen, slices.Clone(order))
		clear(order[:cap(order)])
		if len(seen) == 3 {
			break
		}
	}
	if !slices.EqualFunc(seen, [][]int{{0, 1, 2, 3}, {0, 1, 3, 2}, {0, 2, 1, 3}}, slices.Equal[[]int]) {
		t.Error(seen)
	}
}
