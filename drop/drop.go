// Package drop is layer 1: it tells which colours touch on a bath, whatever
// their drops spread.
package drop

import (
	"sort"

	"oxgall/api"
	"oxgall/lists"
)

// CheckBath reports whether a bath is valid. (P1.1)
func CheckBath(b api.DropBath) api.Errno {
	inside := func(s api.DropSpot) bool {
		return lists.Within(1, b.Width-1, s.X) && lists.Within(0, api.MaxDropFar, s.Y)
	}
	right := func(d api.DropDrop) bool {
		return 0 <= d.Spot && d.Spot < len(b.Spots) &&
			lists.Within(1, api.MaxDropSpread, d.Spread.Lo, d.Spread.Hi) && d.Spread.Lo <= d.Spread.Hi
	}
	switch {
	case !lists.Within(2, api.MaxDropFar, b.Width):
		return api.ErrArg
	case len(b.Spots) > api.MaxDropSpots || len(b.Drops) > api.MaxDropDrops:
		return api.ErrMany
	case !lists.Every(b.Spots, inside):
		return api.ErrRange
	case lists.Twice(b.Spots):
		return api.ErrEqual
	case !lists.Every(b.Drops, right):
		return api.ErrRule
	}
	return api.OK
}

// opened returns a bath with its sizes, if it is valid.
func opened(b api.DropBath) (sized, api.Errno) {
	if e := CheckBath(b); e != api.OK {
		return sized{}, e
	}
	return measured(b, len(b.Drops)), api.OK
}

// openedFor returns a bath with its sizes, if it is valid and one and two are different places of it.
func openedFor(b api.DropBath, one, two int) (sized, api.Errno) {
	s, e := opened(b)
	if e != api.OK {
		return sized{}, e
	}
	if one == two || !s.isPlace(one) || !s.isPlace(two) {
		return sized{}, api.ErrArg
	}
	return s, api.OK
}

// Size returns between which ends the size of a spot lies. (P1.2)
func Size(b api.DropBath, spot int) (api.Range, api.Errno) {
	s, e := opened(b)
	if e != api.OK {
		return api.Range{}, e
	}
	if !s.isSpot(spot) {
		return api.Range{}, api.ErrArg
	}
	return s.sizes[spot], api.OK
}

// Touch returns the kind of two places. (P1.3)
func Touch(b api.DropBath, one, two int) (int, api.Errno) {
	s, e := openedFor(b, one, two)
	if e != api.OK {
		return 0, e
	}
	return s.kind(one, two), api.OK
}

// Beside returns the kind of two drops. (P1.4)
func Beside(b api.DropBath, one, two int) (int, api.Errno) {
	s, e := opened(b)
	if e != api.OK {
		return 0, e
	}
	one, two = min(one, two), max(one, two)
	if one == two || one < 0 || two >= len(b.Drops) {
		return 0, api.ErrArg
	}
	inner, outer := b.Drops[one].Spot, b.Drops[two].Spot
	switch {
	case inner == outer && s.nextOn(one) == two:
		return api.DropAlways, api.OK
	case inner != outer && s.firstOn(inner) == one && s.firstOn(outer) == two:
		return s.kind(inner, outer), api.OK
	}
	return api.DropNever, api.OK
}

// First returns between which ends lies the number of drops after which two places touch. (P1.5)
func First(b api.DropBath, one, two int) (api.Range, api.Errno) {
	s, e := openedFor(b, one, two)
	if e != api.OK {
		return api.Range{}, e
	}
	if s.kind(one, two) == api.DropNever {
		return api.Range{}, api.ErrTouch
	}
	var steps []sized
	for i := range b.Drops {
		steps = append(steps, measured(b, i+1))
	}
	soonest := lists.First(steps, func(t sized) bool { return t.meet(one, two, t.most) })
	latest := lists.First(steps, func(t sized) bool { return t.meet(one, two, t.least) })
	return api.Range{Lo: int64(soonest) + 1, Hi: int64(latest) + 1}, api.OK
}

// Room returns how far one more drop on a spot can spread so that the spot touches nothing. (P1.6)
func Room(b api.DropBath, spot int) (int64, api.Errno) {
	s, e := opened(b)
	if e != api.OK {
		return 0, e
	}
	if !s.isSpot(spot) {
		return 0, api.ErrArg
	}
	if !s.isFree(spot) {
		return 0, api.ErrFull
	}
	tooFar := func(n int) bool {
		more := s
		more.grow(spot, api.Range{Lo: int64(n) + 1, Hi: int64(n) + 1})
		return !more.isFree(spot)
	}
	return int64(sort.Search(api.MaxDropSpread, tooFar)), api.OK
}

// CheckWay reports whether places are a way. (P1.7)
func CheckWay(b api.DropBath, way []int, sure bool) api.Errno {
	s, e := opened(b)
	if e != api.OK {
		return e
	}
	switch {
	case !lists.Within(2, api.MaxDropPlaces, int64(len(way))):
		return api.ErrMany
	case !lists.Every(way, s.isPlace):
		return api.ErrArg
	case lists.Twice(way):
		return api.ErrEqual
	}
	h := s.holding(sure)
	for i := 1; i < len(way); i++ {
		if !h[at(way[i-1])][at(way[i])] {
			return api.ErrTouch
		}
	}
	return api.OK
}

// Way returns the first one of the shortest ways. (P1.7)
func Way(b api.DropBath, one, two int, sure bool) ([]int, api.Errno) {
	s, e := openedFor(b, one, two)
	if e != api.OK {
		return nil, e
	}
	way := s.holding(sure).way(one, two)
	if len(way) == 0 {
		return nil, api.ErrNone
	}
	return way, api.OK
}

// CheckSide reports whether places are a side of one place from another one. (P1.8)
func CheckSide(b api.DropBath, one, two int, side []int, sure bool) api.Errno {
	s, e := openedFor(b, one, two)
	if e != api.OK {
		return e
	}
	if !lists.Rising(side) || !lists.Every(side, s.isPlace) {
		return api.ErrRange
	}
	marks := make([]bool, api.MaxDropPlaces)
	for _, place := range side {
		marks[at(place)] = true
	}
	if !marks[at(one)] || marks[at(two)] || s.holding(sure).leads(marks) {
		return api.ErrSum
	}
	return api.OK
}

// Side returns the least side of one place from another one. (P1.8)
func Side(b api.DropBath, one, two int, sure bool) ([]int, api.Errno) {
	s, e := openedFor(b, one, two)
	if e != api.OK {
		return nil, e
	}
	marks := make([]bool, api.MaxDropPlaces)
	s.holding(sure).mark(one, marks)
	if marks[at(two)] {
		return nil, api.ErrHave
	}
	return listed(marks), api.OK
}

// Groups returns the walls, and the spots that are there, in groups. (P1.9)
func Groups(b api.DropBath, sure bool) ([][]int, api.Errno) {
	s, e := opened(b)
	if e != api.OK {
		return nil, e
	}
	h := s.holding(sure)
	var groups [][]int
	marks := make([]bool, api.MaxDropPlaces)
	for place := range s.places() {
		if s.isSpot(place) && !s.isThere(place) {
			continue
		}
		clear(marks)
		h.mark(place, marks)
		// A group is listed once, when its least place comes.
		if group := listed(marks); group[0] == place {
			groups = append(groups, group)
		}
	}
	return groups, api.OK
}
