package drop_test

import (
	"math"
	"slices"
	"testing"

	"oxgall/api"
	"oxgall/drop"
)

// P1.3, P1.5 and P1.10: kinds and numbers of drops are what all truths together say.
func TestTold(t *testing.T) {
	seen := map[int]int{}
	baths(t, func(b api.DropBath, _ *dice) {
		pairs(b, func(one, two int) {
			holds, all := 0, 0
			first := span(math.MaxInt64, 0)
			truths(b, func(truth []int64) {
				all++
				n := len(truth) + 1
				if touching(b, truth, one, two) {
					holds++
					for n = 0; !touching(b, truth[:n], one, two); n++ {
					}
				}
				first = span(min(first.Lo, int64(n)), max(first.Hi, int64(n)))
			})
			kind := mustTouch(t, b, one, two)
			if kind != kindOf(holds, all) {
				t.Fatal(b, one, two, kind, holds, all)
			}
			seen[kind]++
			r, e := drop.First(b, one, two)
			if kind == api.DropNever && e != api.ErrTouch || kind != api.DropNever && (e != api.OK || r != first) {
				t.Fatal(b, one, two, r, e, first)
			}
			checkEnds(t, b, one, two, kind)
		})
	})
	if seen[api.DropNever] < 100 || seen[api.DropMay] < 100 || seen[api.DropAlways] < 100 {
		t.Error("too few of a kind were looked at", seen)
	}
}

// checkEnds checks that for DropMay all numbers being Lo, and Hi, are truths that differ.
func checkEnds(t *testing.T, b api.DropBath, one, two, kind int) {
	t.Helper()
	var low, high []int64
	for _, d := range b.Drops {
		low, high = append(low, d.Spread.Lo), append(high, d.Spread.Hi)
	}
	if kind == api.DropMay && (touching(b, low, one, two) || !touching(b, high, one, two)) {
		t.Fatal(b, one, two)
	}
}

// P1.4 and P1.10: so are kinds of drops.
func TestBesideTold(t *testing.T) {
	baths(t, func(b api.DropBath, _ *dice) {
		for one := range b.Drops {
			for two := range b.Drops {
				if one == two {
					continue
				}
				holds, all := 0, 0
				truths(b, func(truth []int64) {
					all++
					if besideIn(b, truth, one, two) {
						holds++
					}
				})
				k, e := drop.Beside(b, one, two)
				if e != api.OK || k != kindOf(holds, all) {
					t.Fatal(b, one, two, k, e, holds, all)
				}
			}
		}
	})
}

// besideIn tells whether two drops are beside each other in a truth.
func besideIn(b api.DropBath, truth []int64, one, two int) bool {
	on := func(spot int) []int {
		var out []int
		for i, d := range b.Drops {
			if d.Spot == spot {
				out = append(out, i)
			}
		}
		return out
	}
	ones, twos := on(b.Drops[one].Spot), on(b.Drops[two].Spot)
	if b.Drops[one].Spot == b.Drops[two].Spot {
		gap := slices.Index(ones, one) - slices.Index(ones, two)
		return gap == 1 || gap == -1
	}
	return ones[0] == one && twos[0] == two && touching(b, truth, b.Drops[one].Spot, b.Drops[two].Spot)
}

// shortest returns, by looking at all ways, the first one of the shortest.
func shortest(b api.DropBath, one, two int, sure bool) []int {
	var best []int
	var grow func(way []int)
	grow = func(way []int) {
		if best != nil && len(way) >= len(best) {
			return
		}
		last := way[len(way)-1]
		if last == two {
			best = slices.Clone(way)
			return
		}
		for _, p := range places(b) {
			if p == last || slices.Contains(way, p) {
				continue
			}
			if k, _ := drop.Touch(b, last, p); k == api.DropAlways || k == api.DropMay && !sure {
				grow(append(slices.Clone(way), p))
			}
		}
	}
	grow([]int{one})
	return best
}

// P1.7, P1.8 and P1.11: there is either a way or a side, and each is one.
func TestEither(t *testing.T) {
	baths(t, func(b api.DropBath, _ *dice) {
		for _, sure := range []bool{true, false} {
			pairs(b, func(one, two int) {
				way, e := drop.Way(b, one, two, sure)
				side, f := drop.Side(b, one, two, sure)
				if want := shortest(b, one, two, sure); !slices.Equal(way, want) {
					t.Fatal(b, one, two, sure, way, want)
				}
				switch {
				case e == api.OK && f == api.ErrHave:
					if g := drop.CheckWay(b, way, sure); g != api.OK || way[0] != one || way[len(way)-1] != two {
						t.Fatal(b, one, two, sure, way, g)
					}
				case e == api.ErrNone && f == api.OK:
					if g := drop.CheckSide(b, one, two, side, sure); g != api.OK {
						t.Fatal(b, one, two, sure, side, g)
					}
					checkLeast(t, b, one, side, sure)
				default:
					t.Fatal(b, one, two, sure, e, f)
				}
				checkSides(t, b, one, two, sure, f == api.OK)
			})
		}
	})
}

// checkLeast checks that a side is one place and all places to which there is a way from it.
func checkLeast(t *testing.T, b api.DropBath, one int, side []int, sure bool) {
	t.Helper()
	var want []int
	for _, p := range places(b) {
		if p == one || shortest(b, one, p, sure) != nil {
			want = append(want, p)
		}
	}
	if !slices.Equal(side, want) {
		t.Fatal(b, one, sure, side, want)
	}
}

// checkSides checks that some list of places is a side just if there has to be one.
func checkSides(t *testing.T, b api.DropBath, one, two int, sure, some bool) {
	t.Helper()
	all, found := places(b), false
	for set := range 1 << len(all) {
		var side []int
		for i, p := range all {
			if set>>i&1 == 1 {
				side = append(side, p)
			}
		}
		e := drop.CheckSide(b, one, two, side, sure)
		if e != api.OK && e != api.ErrSum {
			t.Fatal(b, one, two, side, e)
		}
		found = found || e == api.OK
	}
	if found != some {
		t.Fatal(b, one, two, sure, found)
	}
}

// P1.9: places are in one group just if there is a way between them.
func TestGroupsByWays(t *testing.T) {
	baths(t, func(b api.DropBath, _ *dice) {
		for _, sure := range []bool{true, false} {
			groups, e := drop.Groups(b, sure)
			if e != api.OK {
				t.Fatal(b, e)
			}
			var want [][]int
			for _, p := range places(b) {
				if r, _ := drop.Size(b, p); p >= 0 && r.Hi == 0 {
					continue
				}
				i := slices.IndexFunc(want, func(g []int) bool { return shortest(b, g[0], p, sure) != nil })
				if i < 0 {
					want = append(want, []int{p})
					continue
				}
				want[i] = append(want[i], p)
			}
			if !equalLists(groups, want) {
				t.Fatal(b, sure, groups, want)
			}
		}
	})
}

// P1.12
func TestMore(t *testing.T) {
	baths(t, func(b api.DropBath, d *dice) {
		if len(b.Drops) == 0 {
			return
		}
		more := with(b, onto(int(d.below(int64(len(b.Spots)))), 1+d.below(4), 4+d.below(4)))
		narrow := copied(b)
		r := &narrow.Drops[d.below(int64(len(b.Drops)))].Spread
		if r.Lo < r.Hi {
			*r = span(r.Lo+d.below(2), r.Hi)
		}
		if r.Lo < r.Hi {
			r.Hi -= d.below(2)
		}
		pairs(b, func(one, two int) {
			kind := mustTouch(t, b, one, two)
			if k := mustTouch(t, more, one, two); k < kind {
				t.Fatal("more", b, one, two, kind, k)
			}
			if k := mustTouch(t, narrow, one, two); kind != api.DropMay && k != kind {
				t.Fatal("narrower", b, one, two, kind, k)
			}
		})
	})
}

// P1.6 and P1.13
func TestRoomIsMost(t *testing.T) {
	baths(t, func(b api.DropBath, _ *dice) {
		for spot := range b.Spots {
			n, e := drop.Room(b, spot)
			if free := isFree(t, b, spot); free != (e == api.OK) || !free && e != api.ErrFull {
				t.Fatal(b, spot, free, e)
			}
			if e != api.OK {
				continue
			}
			if n > 0 && !isFree(t, with(b, onto(spot, n, n)), spot) {
				t.Fatal(b, spot, n)
			}
			for _, m := range []int64{n + 1, n + 2, n + 50} {
				if isFree(t, with(b, onto(spot, m, m)), spot) {
					t.Fatal(b, spot, n, m)
				}
			}
		}
	})
}

// isFree tells whether a spot's kind with each other place is DropNever.
func isFree(t *testing.T, b api.DropBath, spot int) bool {
	t.Helper()
	for _, p := range places(b) {
		if p != spot && mustTouch(t, b, spot, p) != api.DropNever {
			return false
		}
	}
	return true
}

// P1.14
func TestTurned(t *testing.T) {
	baths(t, func(b api.DropBath, d *dice) {
		turned, scaled := copied(b), copied(b)
		times := 2 + d.below(5)
		scaled.Width *= times
		for i, s := range b.Spots {
			turned.Spots[i].X = b.Width - s.X
			scaled.Spots[i] = spot(s.X*times, s.Y*times)
		}
		for i, x := range b.Drops {
			scaled.Drops[i] = onto(x.Spot, x.Spread.Lo*times*times, x.Spread.Hi*times*times)
		}
		pairs(b, func(one, two int) {
			kind := mustTouch(t, b, one, two)
			if k := mustTouch(t, turned, otherWall(one), otherWall(two)); k != kind {
				t.Fatal("turned", b, one, two, kind, k)
			}
			if k := mustTouch(t, scaled, one, two); k != kind {
				t.Fatal("scaled", b, one, two, times, kind, k)
			}
			if k := mustTouch(t, b, two, one); k != kind {
				t.Fatal("exchanged", b, one, two, kind, k)
			}
		})
	})
}

// otherWall returns the other wall for a wall, and all else as it is.
func otherWall(place int) int {
	switch place {
	case api.DropLeft:
		return api.DropRight
	case api.DropRight:
		return api.DropLeft
	}
	return place
}

// P1.15
func TestJoined(t *testing.T) {
	baths(t, func(b api.DropBath, _ *dice) {
		pairs(b, func(one, two int) {
			if way, e := drop.Way(b, one, two, true); e == api.OK && drop.CheckWay(b, way, false) != api.OK {
				t.Fatal(b, one, two, way)
			}
		})
		sure, _ := drop.Groups(b, true)
		possible, _ := drop.Groups(b, false)
		for _, g := range sure {
			if !slices.ContainsFunc(possible, func(h []int) bool { return within(g, h) }) {
				t.Fatal(b, g, possible)
			}
		}
	})
}

// within tells whether all elements of one list are in another one.
func within(one, two []int) bool {
	for _, x := range one {
		if !slices.Contains(two, x) {
			return false
		}
	}
	return true
}
