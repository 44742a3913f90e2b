package drop

import (
	"iter"

	"oxgall/api"
	"oxgall/lists"
)

// sized is a valid bath with the size of each of its spots.
type sized struct {
	api.DropBath
	sizes [api.MaxDropSpots]api.Range
}

// measured returns the bath with the sizes that its first drops make.
func measured(b api.DropBath, drops int) sized {
	s := sized{DropBath: b}
	for _, d := range b.Drops[:drops] {
		s.grow(d.Spot, d.Spread)
	}
	return s
}

// grow adds what a drop spreads to the size of its spot.
func (s *sized) grow(spot int, spread api.Range) {
	s.sizes[spot].Lo += spread.Lo
	s.sizes[spot].Hi += spread.Hi
}

// least and most are the two ways to say which sizes are meant: areas only
// reach farther as they grow, so what holds in all truths, or in some, is
// told by these two alone.
func (s *sized) least(spot int) int64 { return s.sizes[spot].Lo }
func (s *sized) most(spot int) int64  { return s.sizes[spot].Hi }

// isThere tells whether a spot has a drop; no drop spreads less than 1.
func (s *sized) isThere(spot int) bool { return s.sizes[spot].Lo > 0 }

func (s *sized) isSpot(place int) bool  { return 0 <= place && place < len(s.Spots) }
func (s *sized) isPlace(place int) bool { return api.DropRight <= place && place < len(s.Spots) }

// places yields all places, increasing.
func (s *sized) places() iter.Seq[int] {
	return func(yield func(int) bool) {
		for place := api.DropRight; place < len(s.Spots); place++ {
			if !yield(place) {
				return
			}
		}
	}
}

// meet tells whether two different places touch if spots have the sizes that are meant.
func (s *sized) meet(one, two int, size func(spot int) int64) bool {
	one, two = min(one, two), max(one, two)
	switch {
	case two < 0:
		return false
	case one < 0:
		far := s.toWall(one, two)
		return size(two) >= far*far
	}
	x, y := s.Spots[one].X-s.Spots[two].X, s.Spots[one].Y-s.Spots[two].Y
	return reach(size(one), size(two), x*x+y*y)
}

// toWall returns how far a wall is from a spot.
func (s *sized) toWall(wall, spot int) int64 {
	if wall == api.DropLeft {
		return s.Spots[spot].X
	}
	return s.Width - s.Spots[spot].X
}

// reach tells whether the square roots of two sizes are together at least the
// square root of a third number. Both sides are squared until no root is left,
// so that it is exact also where they just touch.
func reach(one, two, square int64) bool {
	if one == 0 || two == 0 {
		return false
	}
	rest := square - one - two
	return rest <= 0 || rest*rest <= 4*one*two
}

// kind returns the kind of two different places.
func (s *sized) kind(one, two int) int {
	switch {
	case s.meet(one, two, s.least):
		return api.DropAlways
	case s.meet(one, two, s.most):
		return api.DropMay
	}
	return api.DropNever
}

// isFree tells whether a spot never touches anything.
func (s *sized) isFree(spot int) bool {
	for place := range s.places() {
		if place != spot && s.kind(spot, place) != api.DropNever {
			return false
		}
	}
	return true
}

// firstOn returns the index of the first drop on a spot.
func (s *sized) firstOn(spot int) int {
	return lists.First(s.Drops, func(d api.DropDrop) bool { return d.Spot == spot })
}

// nextOn returns the index of the first drop behind one that is on the same spot.
func (s *sized) nextOn(drop int) int {
	behind := s.Drops[drop+1:]
	same := func(d api.DropDrop) bool { return d.Spot == s.Drops[drop].Spot }
	return drop + 1 + lists.First(behind, same)
}
