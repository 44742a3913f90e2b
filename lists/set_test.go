package lists_test

import (
	"slices"
	"testing"

	"oxgall/lists"
)

func TestSet(t *testing.T) {
	var none lists.Set
	all := lists.All(10)
	some := none.With(3).With(0).With(9).With(3)
	for i, x := range []struct {
		set     lists.Set
		indexes []int
	}{
		{none, nil},
		{lists.All(0), nil},
		{lists.All(3), []int{0, 1, 2}},
		{some, []int{0, 3, 9}},
		{some.Without(3), []int{0, 9}},
		{some.Without(4), []int{0, 3, 9}},
		{some.Without(0).Without(3).Without(9), nil},
		{all.Without(0), []int{1, 2, 3, 4, 5, 6, 7, 8, 9}},
		{none.With(63).With(62), []int{62, 63}},
	} {
		if indexes := slices.Collect(x.set.Indexes()); !slices.Equal(indexes, x.indexes) {
			t.Error(i, indexes)
		}
		for index := range 64 {
			if x.set.Has(index) != slices.Contains(x.indexes, index) {
				t.Error(i, index)
			}
		}
		if !x.set.Contains(none) || !x.set.Contains(x.set) || all.Contains(x.set) != !x.set.Has(63) {
			t.Error(i, "contains")
		}
		if x.set.Contains(some) != slices.Equal(x.indexes, []int{0, 3, 9}) {
			t.Error(i, "contains some")
		}
	}
}

// A loop over indexes can be left, and begins anew each time.
func TestIndexesLeft(t *testing.T) {
	indexes := lists.All(5).Indexes()
	for range 2 {
		var seen []int
		for index := range indexes {
			if seen = append(seen, index); index == 2 {
				break
			}
		}
		if !slices.Equal(seen, []int{0, 1, 2}) {
			t.Error(seen)
		}
	}
}
