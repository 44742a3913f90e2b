package gall

import (
	"maps"
	"slices"

	"oxgall/lists"
)

// with returns a list in which a colour suits one place at most.
func (l *list) with(colour, place int) *list {
	other := *l
	other.windows[colour] = common(l.windows[colour], only(place))
	return &other
}

// canBegin tells whether some right order begins with some colours.
func (l *list) canBegin(order []int) bool {
	for place, colour := range order {
		l = l.with(colour, place)
	}
	return l.isPossible()
}

// first returns the first right order of a list that has one.
func (l *list) first() []int {
	first := make([]int, len(l.Colours))
	for order := range lists.Orders(len(first), l.canBegin) {
		copy(first, order)
		break
	}
	return first
}

// count returns how many right orders there are. How many orders the colours have
// that are dropped first is told by those of the sets with one colour less.
func (l *list) count() int64 {
	orders := map[lists.Set]int64{0: 1}
	for place := range l.Colours {
		for _, dropped := range slices.Sorted(maps.Keys(orders)) {
			for next := range l.Colours {
				if !dropped.Has(next) && dropped.Contains(l.before[next]) && l.suits(next, place) {
					orders[dropped.With(next)] += orders[dropped]
				}
			}
			delete(orders, dropped)
		}
	}
	return orders[lists.All(len(l.Colours))]
}
