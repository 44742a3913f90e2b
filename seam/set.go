package seam

import (
	"slices"

	"oxgall/api"
	"oxgall/lists"
)

// places is how often parts lie over each place.
type places [api.MaxSeamPeriod]int64

// set is a valid set with how often all its parts lie over each place, and the peak.
type set struct {
	api.SeamSet
	over places
	peak int64
}

// opened returns a set with its places, if it is valid.
func opened(s api.SeamSet) (*set, api.Errno) {
	if e := CheckSet(s); e != api.OK {
		return nil, e
	}
	o := &set{SeamSet: s}
	o.over = o.lying(o.isPart)
	o.peak = slices.Max(o.over[:])
	return o, api.OK
}

func (s *set) isPart(part int) bool { return 0 <= part && part < len(s.Parts) }

// isFull tells whether a place over which parts lie so often is full.
func (s *set) isFull(often int64) bool { return often == s.peak }

// without returns a number without multiples of the period.
func (s *set) without(n int64) int64 { return (n%s.Period + s.Period) % s.Period }

// lying returns how often the parts that are meant lie over each place.
func (s *set) lying(meant func(part int) bool) places {
	var over places
	for i, part := range s.Parts {
		if !meant(i) {
			continue
		}
		for place := range s.Period {
			// The part comes to the place after so many millimetres, and then again
			// after each period, as long as it is.
			far := s.without(place - part.At)
			over[place] += (part.Long - far + s.Period - 1) / s.Period
		}
	}
	return over
}

// end returns the place at which a part ends.
func (s *set) end(part int) int64 { return s.without(s.Parts[part].At + s.Parts[part].Long) }

// between returns what is wasted behind a part if another one comes next.
func (s *set) between(part, next int) int64 { return s.without(s.Parts[next].At - s.end(part)) }

// inOneStretch tells whether two points are in one stretch.
func (s *set) inOneStretch(one, two int64) bool {
ways:
	for _, way := range [][2]int64{{one, two}, {two, one}} {
		for point := way[0]; point != way[1]; point = s.without(point + 1) {
			if s.isFull(s.over[point]) {
				continue ways
			}
		}
		return true
	}
	return false
}

// meet tells whether two parts touch the same stretch.
func (s *set) meet(one, two int) bool {
	for _, p := range []int64{s.Parts[one].At, s.end(one)} {
		for _, q := range []int64{s.Parts[two].At, s.end(two)} {
			if s.inOneStretch(p, q) {
				return true
			}
		}
	}
	return false
}

// areApart tells whether the parts that are meant stand apart.
func (s *set) areApart(meant func(part int) bool) bool {
	others := func(part int) bool { return !meant(part) }
	// Each part lies over some place, so only no parts at all lie over none.
	if s.lying(meant) == (places{}) || s.lying(others) == (places{}) {
		return false
	}
	for one := range s.Parts {
		for two := range s.Parts {
			if meant(one) && others(two) && s.meet(one, two) {
				return false
			}
		}
	}
	return true
}

// mark marks a part, and all parts that hold together with it.
func (s *set) mark(part int, marks []bool) {
	marks[part] = true
	for other := range s.Parts {
		if !marks[other] && s.meet(part, other) {
			s.mark(other, marks)
		}
	}
}

// groups returns all groups.
func (s *set) groups() [][]int {
	var groups [][]int
	marks := make([]bool, len(s.Parts))
	for part := range s.Parts {
		clear(marks)
		s.mark(part, marks)
		// A group is listed once, when its least part comes.
		if slices.Index(marks, true) == part {
			groups = append(groups, lists.Marked(marks))
		}
	}
	return groups
}

// fewest returns the rounds of a best order. With no more rounds than the peak
// nothing is wasted over full places, so no group is ever left; with one more
// something is wasted over each place, and all groups are come to. (P4.8)
func (s *set) fewest() int64 {
	if len(s.groups()) > 1 {
		return s.peak + 1
	}
	return s.peak
}

// wastes returns the waste behind each part of an order.
func (s *set) wastes(order []int) []int64 {
	wastes := make([]int64, len(order))
	for i, part := range order {
		wastes[i] = s.between(part, order[(i+1)%len(order)])
	}
	return wastes
}

// long returns all Longs together.
func (s *set) long() int64 {
	sum := int64(0)
	for _, part := range s.Parts {
		sum += part.Long
	}
	return sum
}

// rounds returns the rounds of an order.
func (s *set) rounds(order []int) int64 {
	sum := s.long()
	for _, waste := range s.wastes(order) {
		sum += waste
	}
	return sum / s.Period
}
