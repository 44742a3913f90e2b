package drop

import (
	"iter"

	"oxgall/api"
)

// row tells with which places one holds together.
type row [api.MaxDropPlaces]bool

// held tells which places hold together.
type held [api.MaxDropPlaces]row

// at returns where a place stands in a row: the walls have numbers below 0.
func at(place int) int { return place - api.DropRight }

// holding returns which places of a bath hold together, surely or possibly.
func (s *sized) holding(sure bool) *held {
	h := new(held)
	for one := range s.places() {
		for two := range s.places() {
			if one == two {
				continue
			}
			kind := s.kind(one, two)
			h[at(one)][at(two)] = kind == api.DropAlways || kind == api.DropMay && !sure
		}
	}
	return h
}

// beside yields the places that hold together with one, increasing.
func (h *held) beside(place int) iter.Seq[int] {
	return func(yield func(int) bool) {
		for i, holds := range h[at(place)] {
			if holds && !yield(i+api.DropRight) {
				return
			}
		}
	}
}

// lone tells whether a place holds together with none.
func (h *held) lone(place int) bool { return h[at(place)] == row{} }

// way returns a shortest way between two different places, or nil. Places are
// looked at in the order in which they are found, each one's neighbours
// increasing, so the first way that is found is also the lexicographically
// first one.
func (h *held) way(one, two int) []int {
	if h.lone(one) || h.lone(two) {
		return nil
	}
	var ways [api.MaxDropPlaces][]int
	var found []int
	ways[at(one)] = []int{one}
	by := map[int]int{} // for places that were found, but not looked at yet
	open := []int{one}
search:
	for len(open) > 0 {
		place := open[0]
		open = open[1:]
		if from, ok := by[place]; ok {
			ways[at(place)] = longer(ways[at(from)], place)
			delete(by, place)
		}
		for next := range h.beside(place) {
			if next == two {
				found = longer(ways[at(place)], two)
				break search
			}
			if _, ok := by[next]; !ok && ways[at(next)] == nil {
				by[next] = place
				open = append(open, next)
			}
		}
	}
	out := make([]int, len(found))
	copy(out, found)
	return out
}

// longer returns a way with one more place. The way's capacity is cut, since
// other ways may begin with the same places.
func longer(way []int, place int) []int {
	return append(way[:len(way):len(way)], place)
}

// mark marks a place, and all places to which there is a way from it.
func (h *held) mark(place int, marks []bool) {
	marks[at(place)] = true
	for next := range h.beside(place) {
		if !marks[at(next)] {
			h.mark(next, marks)
		}
	}
}

// leads tells whether some place that is marked holds together with one that is not.
func (h *held) leads(marks []bool) bool {
	for _, place := range listed(marks) {
		for next := range h.beside(place) {
			if !marks[at(next)] {
				return true
			}
		}
	}
	return false
}

// listed returns the places that are marked, increasing.
func listed(marks []bool) []int {
	var out []int
	for i, marked := range marks {
		if marked {
			out = append(out, i+api.DropRight)
		}
	}
	return out
}
