package drop_test

import (
	"math"
	"slices"
	"testing"

	"oxgall/api"
	"oxgall/drop"
)

// row returns n spots beside one another.
func row(n int) []api.DropSpot {
	var out []api.DropSpot
	for i := range n {
		out = append(out, spot(int64(i)+1, 0))
	}
	return out
}

// P1.1
func TestCheckBath(t *testing.T) {
	one := []api.DropSpot{spot(1, 7)}
	for i, x := range []struct {
		b api.DropBath
		e api.Errno
	}{
		{chapterB(), api.OK},
		{chapterC(), api.OK},
		{api.DropBath{Width: 2}, api.OK},
		{api.DropBath{Width: 1000, Spots: row(10), Drops: slices.Repeat([]api.DropDrop{onto(9, 1, 10000)}, 40)}, api.OK},
		{api.DropBath{Width: 1000, Spots: []api.DropSpot{spot(1, 0), spot(999, 1000), spot(1, 1000), spot(999, 0)}}, api.OK},
		{api.DropBath{}, api.ErrArg},
		{api.DropBath{Width: 1}, api.ErrArg},
		{api.DropBath{Width: -5}, api.ErrArg},
		{api.DropBath{Width: 1001}, api.ErrArg},
		{api.DropBath{Width: math.MaxInt64}, api.ErrArg},
		{api.DropBath{Width: math.MinInt64, Spots: one}, api.ErrArg},
		{api.DropBath{Width: 1000, Spots: row(11)}, api.ErrMany},
		{api.DropBath{Width: 9, Spots: one, Drops: slices.Repeat([]api.DropDrop{onto(0, 1, 1)}, 41)}, api.ErrMany},
		{api.DropBath{Width: 9, Spots: []api.DropSpot{spot(0, 3)}}, api.ErrRange},
		{api.DropBath{Width: 9, Spots: []api.DropSpot{spot(9, 3)}}, api.ErrRange},
		{api.DropBath{Width: 9, Spots: []api.DropSpot{spot(8, -1)}}, api.ErrRange},
		{api.DropBath{Width: 9, Spots: []api.DropSpot{spot(8, 1001)}}, api.ErrRange},
		{api.DropBath{Width: 9, Spots: []api.DropSpot{spot(8, 0), spot(math.MinInt64, 0)}}, api.ErrRange},
		{api.DropBath{Width: 9, Spots: []api.DropSpot{spot(1, 7), spot(1, 8), spot(1, 7)}}, api.ErrEqual},
		{api.DropBath{Width: 9, Spots: []api.DropSpot{spot(1, 7), spot(7, 1)}}, api.OK},
		{api.DropBath{Width: 9, Spots: one, Drops: []api.DropDrop{onto(0, 1, 1), onto(1, 1, 1)}}, api.ErrRule},
		{api.DropBath{Width: 9, Spots: one, Drops: []api.DropDrop{onto(-1, 1, 1)}}, api.ErrRule},
		{api.DropBath{Width: 9, Drops: []api.DropDrop{onto(0, 1, 1)}}, api.ErrRule},
		{api.DropBath{Width: 9, Spots: one, Drops: []api.DropDrop{onto(0, 0, 1)}}, api.ErrRule},
		{api.DropBath{Width: 9, Spots: one, Drops: []api.DropDrop{onto(0, 3, 2)}}, api.ErrRule},
		{api.DropBath{Width: 9, Spots: one, Drops: []api.DropDrop{onto(0, 3, 10001)}}, api.ErrRule},
		{api.DropBath{Width: 9, Spots: one, Drops: []api.DropDrop{onto(0, math.MinInt64, math.MaxInt64)}}, api.ErrRule},
		// of several errors the one that is named first
		{api.DropBath{Width: 1, Spots: row(11)}, api.ErrArg},
		{api.DropBath{Width: 9, Spots: row(11)}, api.ErrMany},
		{api.DropBath{Width: 9, Spots: []api.DropSpot{spot(1, 1), spot(1, 1), spot(0, 0)}}, api.ErrRange},
		{api.DropBath{Width: 9, Spots: []api.DropSpot{spot(1, 1), spot(1, 1)}, Drops: []api.DropDrop{onto(5, 0, 0)}}, api.ErrEqual},
	} {
		if e := drop.CheckBath(x.b); e != x.e {
			t.Error(i, e, x.e)
		}
	}
}

// The error of CheckBath comes before all others, and with it zero values.
func TestInvalidBath(t *testing.T) {
	for _, x := range []struct {
		b api.DropBath
		e api.Errno
	}{
		{api.DropBath{Width: 1}, api.ErrArg},
		{api.DropBath{Width: 100, Spots: row(11)}, api.ErrMany},
		{api.DropBath{Width: 5, Spots: []api.DropSpot{spot(5, 0)}}, api.ErrRange},
		{api.DropBath{Width: 5, Spots: []api.DropSpot{spot(4, 0), spot(4, 0)}}, api.ErrEqual},
		{api.DropBath{Width: 5, Spots: row(1), Drops: []api.DropDrop{onto(0, 0, 0)}}, api.ErrRule},
	} {
		for _, p := range []int{0, 99} {
			if r, e := drop.Size(x.b, p); e != x.e || r != span(0, 0) {
				t.Error("Size", r, e, x.e)
			}
			if k, e := drop.Touch(x.b, p, p); e != x.e || k != 0 {
				t.Error("Touch", k, e, x.e)
			}
			if k, e := drop.Beside(x.b, p, p); e != x.e || k != 0 {
				t.Error("Beside", k, e, x.e)
			}
			if r, e := drop.First(x.b, p, p); e != x.e || r != span(0, 0) {
				t.Error("First", r, e, x.e)
			}
			if n, e := drop.Room(x.b, p); e != x.e || n != 0 {
				t.Error("Room", n, e, x.e)
			}
			for _, sure := range []bool{true, false} {
				if e := drop.CheckWay(x.b, []int{p}, sure); e != x.e {
					t.Error("CheckWay", e, x.e)
				}
				if w, e := drop.Way(x.b, p, p, sure); e != x.e || len(w) > 0 {
					t.Error("Way", w, e, x.e)
				}
				if e := drop.CheckSide(x.b, p, p, []int{99}, sure); e != x.e {
					t.Error("CheckSide", e, x.e)
				}
				if s, e := drop.Side(x.b, p, p, sure); e != x.e || len(s) > 0 {
					t.Error("Side", s, e, x.e)
				}
				if g, e := drop.Groups(x.b, sure); e != x.e || len(g) > 0 {
					t.Error("Groups", g, e, x.e)
				}
			}
		}
	}
}

// P1.2
func TestSize(t *testing.T) {
	full := api.DropBath{Width: 1000, Spots: row(10), Drops: slices.Repeat([]api.DropDrop{onto(9, 1, 10000)}, 40)}
	for i, x := range []struct {
		b    api.DropBath
		spot int
		size api.Range
		e    api.Errno
	}{
		{chapterB(), 0, span(300, 444), api.OK},
		{chapterB(), 1, span(225, 400), api.OK},
		{chapterB(), 2, span(100, 100), api.OK},
		{chapterC(), 1, span(0, 0), api.OK},
		{full, 9, span(40, 400000), api.OK},
		{full, 0, span(0, 0), api.OK},
		{full, 10, span(0, 0), api.ErrArg},
		{chapterB(), 3, span(0, 0), api.ErrArg},
		{chapterB(), api.DropLeft, span(0, 0), api.ErrArg},
		{chapterB(), math.MaxInt, span(0, 0), api.ErrArg},
		{chapterB(), math.MinInt, span(0, 0), api.ErrArg},
	} {
		if r, e := drop.Size(x.b, x.spot); r != x.size || e != x.e {
			t.Error(i, r, e)
		}
	}
}

// P1.3 and P1.5
func TestTouchAndFirst(t *testing.T) {
	line := []api.DropSpot{spot(5, 0), spot(12, 0), spot(9, 3)}
	on := func(drops ...api.DropDrop) api.DropBath {
		return api.DropBath{Width: 50, Spots: line, Drops: drops}
	}
	far := api.DropBath{Width: 1000, Spots: []api.DropSpot{spot(1, 0), spot(999, 1000)}}
	far.Drops = append(slices.Repeat([]api.DropDrop{onto(0, 9000, 10000)}, 20), slices.Repeat([]api.DropDrop{onto(1, 9000, 10000)}, 20)...)
	for i, x := range []struct {
		b        api.DropBath
		one, two int
		kind     int
		first    api.Range
		e, f     api.Errno
	}{
		{chapterB(), 0, 1, api.DropAlways, span(2, 3), api.OK, api.OK},
		{chapterB(), 1, 0, api.DropAlways, span(2, 3), api.OK, api.OK},
		{chapterB(), 1, 2, api.DropMay, span(4, 5), api.OK, api.OK},
		{chapterB(), 0, 2, api.DropNever, span(0, 0), api.OK, api.ErrTouch},
		{chapterB(), -1, 0, api.DropMay, span(3, 5), api.OK, api.OK},
		{chapterB(), 2, -2, api.DropNever, span(0, 0), api.OK, api.ErrTouch},
		{chapterB(), -2, -1, api.DropNever, span(0, 0), api.OK, api.ErrTouch},
		{chapterC(), 0, 1, api.DropNever, span(0, 0), api.OK, api.ErrTouch},
		{chapterC(), -1, 1, api.DropNever, span(0, 0), api.OK, api.ErrTouch},
		// they just reach each other, or a wall, and just do not
		{on(onto(0, 9, 9), onto(1, 16, 16)), 0, 1, api.DropAlways, span(2, 2), api.OK, api.OK},
		{on(onto(0, 9, 9), onto(1, 15, 15)), 0, 1, api.DropNever, span(0, 0), api.OK, api.ErrTouch},
		{on(onto(0, 9, 9), onto(1, 15, 16)), 1, 0, api.DropMay, span(2, 3), api.OK, api.OK},
		{on(onto(0, 8, 8), onto(2, 8, 8)), 0, 2, api.DropAlways, span(2, 2), api.OK, api.OK},
		{on(onto(0, 8, 8), onto(2, 2, 2)), 0, 2, api.DropNever, span(0, 0), api.OK, api.ErrTouch},
		{on(onto(0, 24, 24)), -1, 0, api.DropNever, span(0, 0), api.OK, api.ErrTouch},
		{on(onto(0, 24, 24), onto(0, 1, 5)), 0, -1, api.DropAlways, span(2, 2), api.OK, api.OK},
		{on(onto(1, 1444, 1444)), -2, 1, api.DropAlways, span(1, 1), api.OK, api.OK},
		{on(onto(1, 1443, 1444)), -2, 1, api.DropMay, span(1, 2), api.OK, api.OK},
		// one alone does not touch a spot that is not there, however far it reaches
		{on(onto(0, 10000, 10000)), 0, 1, api.DropNever, span(0, 0), api.OK, api.ErrTouch},
		{on(onto(0, 10000, 10000), onto(1, 1, 1)), 0, 1, api.DropAlways, span(2, 2), api.OK, api.OK},
		// the greatest bath, from corner to corner
		{far, 0, 1, api.DropNever, span(0, 0), api.OK, api.ErrTouch},
		{chapterB(), 1, 1, 0, span(0, 0), api.ErrArg, api.ErrArg},
		{chapterB(), 1, 3, 0, span(0, 0), api.ErrArg, api.ErrArg},
		{chapterB(), -3, 1, 0, span(0, 0), api.ErrArg, api.ErrArg},
		{chapterB(), math.MaxInt, math.MinInt, 0, span(0, 0), api.ErrArg, api.ErrArg},
	} {
		if k, e := drop.Touch(x.b, x.one, x.two); k != x.kind || e != x.e {
			t.Error(i, k, e)
		}
		if r, e := drop.First(x.b, x.one, x.two); r != x.first || e != x.f {
			t.Error(i, r, e)
		}
	}
}

// P1.4
func TestBeside(t *testing.T) {
	three := api.DropBath{Width: 9, Spots: row(1), Drops: slices.Repeat([]api.DropDrop{onto(0, 1, 1)}, 3)}
	for i, x := range []struct {
		b        api.DropBath
		one, two int
		kind     int
		e        api.Errno
	}{
		{chapterB(), 0, 2, api.DropAlways, api.OK},
		{chapterB(), 2, 0, api.DropAlways, api.OK},
		{chapterB(), 0, 1, api.DropAlways, api.OK},
		{chapterB(), 1, 0, api.DropAlways, api.OK},
		{chapterB(), 2, 1, api.DropNever, api.OK}, // 2 is not the outermost ring
		{chapterB(), 1, 3, api.DropMay, api.OK},
		{chapterB(), 0, 3, api.DropNever, api.OK},
		{three, 0, 1, api.DropAlways, api.OK},
		{three, 2, 1, api.DropAlways, api.OK},
		{three, 0, 2, api.DropNever, api.OK}, // one lies between them
		{chapterB(), 0, 0, 0, api.ErrArg},
		{chapterB(), 0, 4, 0, api.ErrArg},
		{chapterB(), -1, 0, 0, api.ErrArg},
		{chapterB(), math.MinInt, math.MaxInt, 0, api.ErrArg},
		{api.DropBath{Width: 9}, 0, 1, 0, api.ErrArg},
	} {
		if k, e := drop.Beside(x.b, x.one, x.two); k != x.kind || e != x.e {
			t.Error(i, k, e)
		}
	}
}

// P1.6
func TestRoom(t *testing.T) {
	at := func(x int64, drops ...api.DropDrop) api.DropBath {
		return api.DropBath{Width: 1000, Spots: []api.DropSpot{spot(x, 0)}, Drops: drops}
	}
	for i, x := range []struct {
		b    api.DropBath
		spot int
		room int64
		e    api.Errno
	}{
		{chapterC(), 0, 255, api.OK},
		{chapterC(), 1, 323, api.OK},
		{chapterC(), 2, 299, api.OK},
		{chapterB(), 0, 0, api.ErrFull},
		{chapterB(), 1, 0, api.ErrFull},
		{chapterB(), 2, 0, api.ErrFull}, // it only may touch
		{at(500), 0, 10000, api.OK},
		{at(101), 0, 10000, api.OK},
		{at(100), 0, 9999, api.OK},
		{at(900), 0, 9999, api.OK},
		{at(2, onto(0, 1, 2)), 0, 1, api.OK},
		{at(2, onto(0, 1, 3)), 0, 0, api.OK},
		{at(2, onto(0, 1, 4)), 0, 0, api.ErrFull},
		{at(2), 0, 3, api.OK},
		{at(1), 0, 0, api.OK},
		{at(500, slices.Repeat([]api.DropDrop{onto(0, 1, 5)}, 40)...), 0, 10000, api.OK},
		{at(1), 1, 0, api.ErrArg},
		{at(1), api.DropLeft, 0, api.ErrArg},
		{chapterB(), math.MaxInt, 0, api.ErrArg},
	} {
		if n, e := drop.Room(x.b, x.spot); n != x.room || e != x.e {
			t.Error(i, n, e)
		}
	}
}

// ring is four spots in a square that touch their neighbours, and one alone.
func ring() api.DropBath {
	return api.DropBath{
		Width: 100,
		Spots: []api.DropSpot{spot(30, 30), spot(40, 30), spot(40, 40), spot(30, 40), spot(90, 90)},
		Drops: []api.DropDrop{onto(0, 25, 25), onto(1, 25, 25), onto(2, 25, 25), onto(3, 25, 36)},
	}
}

// chain is ten spots in a row from wall to wall, each of which touches its neighbours.
func chain() api.DropBath {
	b := api.DropBath{Width: 20}
	for i := range 10 {
		b.Spots = append(b.Spots, spot(1+2*int64(i), 0))
		b.Drops = append(b.Drops, onto(i, 1, 1))
	}
	return b
}

// P1.7
func TestCheckWay(t *testing.T) {
	whole := []int{-1, 0, 1, 2, 3, 4, 5, 6, 7, 8, 9, -2}
	for i, x := range []struct {
		b              api.DropBath
		way            []int
		sure, possible api.Errno
	}{
		{chapterB(), []int{0, 1}, api.OK, api.OK},
		{chapterB(), []int{1, 0}, api.OK, api.OK},
		{chapterB(), []int{-1, 0, 1, 2}, api.ErrTouch, api.OK},
		{chapterB(), []int{0, 1, 2, -2}, api.ErrTouch, api.ErrTouch},
		{chapterB(), []int{0, 2}, api.ErrTouch, api.ErrTouch},
		{chapterB(), []int{-1, -2}, api.ErrTouch, api.ErrTouch},
		{ring(), []int{0, 3, 2}, api.OK, api.OK},
		{ring(), []int{0, 3, 2, 1}, api.OK, api.OK}, // not a shortest one, but a way
		{ring(), []int{0, 2}, api.ErrTouch, api.ErrTouch},
		{chain(), whole, api.OK, api.OK},
		{chain(), append(slices.Clone(whole), 0), api.ErrMany, api.ErrMany},
		{chain(), append(slices.Clone(whole[:11]), 0), api.ErrEqual, api.ErrEqual},
		{chapterB(), nil, api.ErrMany, api.ErrMany},
		{chapterB(), []int{0}, api.ErrMany, api.ErrMany},
		{chapterB(), []int{7}, api.ErrMany, api.ErrMany},
		{chapterB(), []int{0, 0, 3}, api.ErrArg, api.ErrArg},
		{chapterB(), []int{0, -3}, api.ErrArg, api.ErrArg},
		{chapterB(), []int{math.MaxInt, math.MinInt}, api.ErrArg, api.ErrArg},
		{chapterB(), []int{0, 2, 0}, api.ErrEqual, api.ErrEqual},
		{chapterB(), []int{0, 0}, api.ErrEqual, api.ErrEqual},
	} {
		if e := drop.CheckWay(x.b, x.way, true); e != x.sure {
			t.Error(i, "surely", e)
		}
		if e := drop.CheckWay(x.b, x.way, false); e != x.possible {
			t.Error(i, "possibly", e)
		}
	}
}

// P1.7 and P1.8
func TestWayAndSide(t *testing.T) {
	for i, x := range []struct {
		b         api.DropBath
		one, two  int
		sure      bool
		way, side []int
		e, f      api.Errno
	}{
		{chapterB(), -1, 2, false, []int{-1, 0, 1, 2}, nil, api.OK, api.ErrHave},
		{chapterB(), 2, -1, false, []int{2, 1, 0, -1}, nil, api.OK, api.ErrHave},
		{chapterB(), 0, 1, true, []int{0, 1}, nil, api.OK, api.ErrHave},
		{chapterB(), -1, 2, true, nil, []int{-1}, api.ErrNone, api.OK},
		{chapterB(), 0, 2, true, nil, []int{0, 1}, api.ErrNone, api.OK},
		{chapterB(), 0, 2, false, []int{0, 1, 2}, nil, api.OK, api.ErrHave},
		{chapterB(), 0, -2, false, nil, []int{-1, 0, 1, 2}, api.ErrNone, api.OK},
		{chapterB(), -2, 0, false, nil, []int{-2}, api.ErrNone, api.OK},
		{chapterC(), 1, 0, false, nil, []int{1}, api.ErrNone, api.OK},
		{ring(), 0, 2, true, []int{0, 1, 2}, nil, api.OK, api.ErrHave},
		{ring(), 2, 0, true, []int{2, 1, 0}, nil, api.OK, api.ErrHave},
		{ring(), 3, 1, true, []int{3, 0, 1}, nil, api.OK, api.ErrHave},
		{ring(), 3, 4, false, nil, []int{0, 1, 2, 3}, api.ErrNone, api.OK},
		{chain(), -2, -1, true, []int{-2, 9, 8, 7, 6, 5, 4, 3, 2, 1, 0, -1}, nil, api.OK, api.ErrHave},
		{api.DropBath{Width: 2}, -2, -1, false, nil, []int{-2}, api.ErrNone, api.OK},
		{chapterB(), 1, 1, true, nil, nil, api.ErrArg, api.ErrArg},
		{chapterB(), 0, 3, false, nil, nil, api.ErrArg, api.ErrArg},
		{chapterB(), -3, 0, false, nil, nil, api.ErrArg, api.ErrArg},
		{chapterB(), math.MinInt, math.MaxInt, false, nil, nil, api.ErrArg, api.ErrArg},
	} {
		if w, e := drop.Way(x.b, x.one, x.two, x.sure); !slices.Equal(w, x.way) || e != x.e {
			t.Error(i, w, e)
		}
		if s, e := drop.Side(x.b, x.one, x.two, x.sure); !slices.Equal(s, x.side) || e != x.f {
			t.Error(i, s, e)
		}
	}
}

// P1.8
func TestCheckSide(t *testing.T) {
	for i, x := range []struct {
		one, two       int
		side           []int
		sure, possible api.Errno
	}{
		{0, 2, []int{0, 1}, api.OK, api.ErrSum},
		{0, 2, []int{-1, 0, 1}, api.OK, api.ErrSum}, // more than has to be
		{0, 2, []int{0}, api.ErrSum, api.ErrSum},
		{0, -2, []int{-1, 0, 1, 2}, api.OK, api.OK},
		{0, -2, []int{-2, -1, 0, 1, 2}, api.ErrSum, api.ErrSum},
		{0, -2, []int{-1, 1, 2}, api.ErrSum, api.ErrSum},
		{-2, 0, []int{-2}, api.OK, api.OK},
		{0, -2, nil, api.ErrSum, api.ErrSum},
		{0, -2, []int{0, -1, 1, 2}, api.ErrRange, api.ErrRange},
		{0, -2, []int{-1, 0, 0, 1, 2}, api.ErrRange, api.ErrRange},
		{0, -2, []int{-1, 0, 1, 2, 3}, api.ErrRange, api.ErrRange},
		{0, -2, []int{-3, -1, 0, 1, 2}, api.ErrRange, api.ErrRange},
		{0, -2, []int{math.MinInt, 0, math.MaxInt}, api.ErrRange, api.ErrRange},
		{0, 0, []int{9}, api.ErrArg, api.ErrArg},
		{0, 3, []int{9}, api.ErrArg, api.ErrArg},
	} {
		if e := drop.CheckSide(chapterB(), x.one, x.two, x.side, true); e != x.sure {
			t.Error(i, "surely", e)
		}
		if e := drop.CheckSide(chapterB(), x.one, x.two, x.side, false); e != x.possible {
			t.Error(i, "possibly", e)
		}
	}
}

// P1.9
func TestGroups(t *testing.T) {
	alone := [][]int{{-2}, {-1}}
	apart := api.DropBath{
		Width: 100,
		Spots: []api.DropSpot{spot(10, 0), spot(90, 0), spot(12, 0), spot(88, 0)},
		Drops: []api.DropDrop{onto(3, 1, 1), onto(2, 1, 1), onto(1, 1, 1), onto(0, 1, 1)},
	}
	for i, x := range []struct {
		b              api.DropBath
		sure, possible [][]int
	}{
		{chapterB(), [][]int{{-2}, {-1}, {0, 1}, {2}}, [][]int{{-2}, {-1, 0, 1, 2}}},
		{chapterC(), [][]int{{-2}, {-1}, {0}, {2}}, [][]int{{-2}, {-1}, {0}, {2}}},
		{ring(), [][]int{{-2}, {-1}, {0, 1, 2, 3}}, [][]int{{-2}, {-1}, {0, 1, 2, 3}}},
		{chain(), [][]int{{-2, -1, 0, 1, 2, 3, 4, 5, 6, 7, 8, 9}}, [][]int{{-2, -1, 0, 1, 2, 3, 4, 5, 6, 7, 8, 9}}},
		{apart, [][]int{{-2}, {-1}, {0, 2}, {1, 3}}, [][]int{{-2}, {-1}, {0, 2}, {1, 3}}},
		{api.DropBath{Width: 2}, alone, alone},
		{api.DropBath{Width: 2, Spots: row(1)}, alone, alone},
	} {
		sure, e := drop.Groups(x.b, true)
		possible, f := drop.Groups(x.b, false)
		if e != api.OK || f != api.OK || !equalLists(sure, x.sure) || !equalLists(possible, x.possible) {
			t.Error(i, sure, possible, e, f)
		}
	}
}
