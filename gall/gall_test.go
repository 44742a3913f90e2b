package gall_test

import (
	"math"
	"slices"
	"testing"

	"oxgall/api"
	"oxgall/gall"
)

// P5.1
func TestCheckList(t *testing.T) {
	// all pairs of ten colours in which the first one is the greater one
	var pairs [][2]int
	for one := range 10 {
		for two := range one {
			pairs = append(pairs, [2]int{one, two})
		}
	}
	good := list(10, 100, 110, 60, 110)
	with := func(pairs ...[2]int) api.GallList { return paired(free(4), pairs...) }
	for i, x := range []struct {
		l api.GallList
		e api.Errno
	}{
		{chapterL(), api.OK},
		{chapterM(), api.OK},
		{good, api.OK},
		{list(1, 0, 0, 0, 0), api.OK},
		{list(100, 1000, 1000, 1000, 1000), api.OK},
		{list(100, 0, 1000, 0, 1000), api.OK},
		{alike(10, 1, 0, 1000, 1000, 1000), api.OK},
		{paired(free(10), pairs[:40]...), api.OK},
		{chain(10), api.OK},
		{with([2]int{0, 1}, [2]int{1, 2}, [2]int{0, 2}, [2]int{3, 2}, [2]int{0, 3}), api.OK},
		{api.GallList{}, api.ErrMany},
		{list(10), api.ErrMany},
		{free(11), api.ErrMany},
		{free(5000), api.ErrMany},
		{paired(free(10), pairs[:41]...), api.ErrMany},
		{list(0, 100, 110, 60, 110), api.ErrRange},
		{list(-1, 100, 110, 60, 110), api.ErrRange},
		{list(101, 100, 110, 60, 110), api.ErrRange},
		{list(math.MinInt64, 100, 110, 60, 110), api.ErrRange},
		{list(math.MaxInt64, 100, 110, 60, 110), api.ErrRange},
		{list(10, 111, 110, 60, 110), api.ErrRange},
		{list(10, -1, 110, 60, 110), api.ErrRange},
		{list(10, 100, 1001, 60, 110), api.ErrRange},
		{list(10, 1001, 1002, 60, 110), api.ErrRange},
		{list(10, -2, -1, 60, 110), api.ErrRange},
		{list(10, 100, 110, 111, 110), api.ErrRange},
		{list(10, 100, 110, -1, 110), api.ErrRange},
		{list(10, 100, 110, 60, 1001), api.ErrRange},
		{list(10, 100, 110, -2, -1), api.ErrRange},
		{list(10, 100, 110, 1001, 1001), api.ErrRange},
		{list(10, math.MinInt64, math.MaxInt64, math.MinInt64, math.MaxInt64), api.ErrRange},
		{list(10, 1, 2, 1, 2, 1, 2, 1, 2, 1, 2, 2, 1), api.ErrRange},
		{with([2]int{0, 0}), api.ErrArg},
		{with([2]int{0, 4}), api.ErrArg},
		{with([2]int{4, 0}), api.ErrArg},
		{with([2]int{-1, 0}), api.ErrArg},
		{with([2]int{0, -1}), api.ErrArg},
		{with([2]int{math.MinInt, math.MaxInt}), api.ErrArg},
		{with([2]int{0, 1}, [2]int{2, 3}, [2]int{0, 1}), api.ErrArg},
		{with([2]int{0, 1}, [2]int{1, 0}), api.ErrRule},
		{with([2]int{2, 3}, [2]int{3, 1}, [2]int{1, 2}), api.ErrRule},
		{with([2]int{0, 1}, [2]int{1, 2}, [2]int{2, 3}, [2]int{3, 0}), api.ErrRule},
		{with([2]int{0, 1}, [2]int{2, 3}, [2]int{3, 2}), api.ErrRule},
		{paired(chain(10), [2]int{0, 9}), api.ErrRule},
		{paired(chain(10), [2]int{0, 8}), api.ErrRule},
		{paired(chain(10), [2]int{1, 9}), api.ErrRule},
		// of several errors the one that is named first
		{list(0), api.ErrMany},
		{alike(11, 0, 5, 1, 5, 1), api.ErrMany},
		{paired(list(0, 5, 1, 5, 1), make([][2]int, 41)...), api.ErrMany},
		{paired(list(0, 1, 1, 1, 1), [2]int{0, 0}), api.ErrRange},
		{paired(list(1, 5, 1, 1, 1), [2]int{0, 0}), api.ErrRange},
		{with([2]int{0, 1}, [2]int{1, 0}, [2]int{2, 2}), api.ErrArg},
		{with([2]int{0, 1}, [2]int{1, 0}, [2]int{0, 1}), api.ErrArg},
	} {
		if e := gall.CheckList(x.l); e != x.e {
			t.Error(i, e, x.e)
		}
	}
}

// The error of CheckList comes before all others, and with it zero values.
func TestInvalidList(t *testing.T) {
	for _, x := range []struct {
		l api.GallList
		e api.Errno
	}{
		{list(10), api.ErrMany},
		{free(11), api.ErrMany},
		{paired(free(2), make([][2]int, 41)...), api.ErrMany},
		{list(0, 5, 5, 0, 9, 5, 5, 0, 9), api.ErrRange},
		{list(1, 5, 5, 0, 9, 5, 5, 9, 0), api.ErrRange},
		{paired(free(2), [2]int{1, 1}), api.ErrArg},
		{paired(free(2), [2]int{1, 0}, [2]int{0, 1}), api.ErrRule},
	} {
		for _, n := range of(0, 1, 99, -1) {
			if r, e := gall.Spread(x.l, n, n); e != x.e || r != from(0, 0) {
				t.Error("Spread", r, e, x.e)
			}
			if r, e := gall.Window(x.l, n); e != x.e || r != from(0, 0) {
				t.Error("Window", r, e, x.e)
			}
			if r, e := gall.Bounds(x.l, n); e != x.e || r != from(0, 0) {
				t.Error("Bounds", r, e, x.e)
			}
			if e := gall.CheckOrder(x.l, of(n, 1)); e != x.e {
				t.Error("CheckOrder", e, x.e)
			}
			if e := gall.CheckBlock(x.l, block(int64(n), 9999, n)); e != x.e {
				t.Error("CheckBlock", e, x.e)
			}
			if l, e := gall.Places(x.l, n); e != x.e || len(l) > 0 {
				t.Error("Places", l, e, x.e)
			}
			if b, e := gall.Must(x.l, n, 1); e != x.e || b {
				t.Error("Must", b, e, x.e)
			}
			if l, e := gall.Swaps(x.l, of(n, 1)); e != x.e || len(l) > 0 {
				t.Error("Swaps", l, e, x.e)
			}
		}
		if l, e := gall.Order(x.l); e != x.e || len(l) > 0 {
			t.Error("Order", l, e, x.e)
		}
		if b, e := gall.Block(x.l); e != x.e || !sameBlock(b, block(0, 0)) {
			t.Error("Block", b, e, x.e)
		}
		if n, e := gall.Count(x.l); e != x.e || n != 0 {
			t.Error("Count", n, e, x.e)
		}
	}
}

// P5.2
func TestSpread(t *testing.T) {
	for i, x := range []struct {
		l             api.GallList
		colour, place int
		spread        api.Range
		e             api.Errno
	}{
		{chapterL(), 2, 2, from(100, 105), api.OK},
		{chapterL(), 2, 0, from(120, 125), api.OK},
		{chapterL(), 0, 3, from(70, 80), api.OK},
		{alike(10, 100, 0, 1000, 0, 0), 9, 9, from(-900, 100), api.OK},
		{alike(10, 100, 0, 0, 0, 0), 0, 9, from(-900, -900), api.OK},
		{chapterL(), 0, 4, from(0, 0), api.ErrRange},
		{chapterL(), 0, -1, from(0, 0), api.ErrRange},
		{chapterL(), 0, math.MaxInt, from(0, 0), api.ErrRange},
		{chapterL(), 3, math.MinInt, from(0, 0), api.ErrRange},
		{free(1), 0, 1, from(0, 0), api.ErrRange},
		{chapterL(), 4, 0, from(0, 0), api.ErrArg},
		{chapterL(), -1, 0, from(0, 0), api.ErrArg},
		{chapterL(), 4, 4, from(0, 0), api.ErrArg},
		{chapterL(), math.MinInt, math.MaxInt, from(0, 0), api.ErrArg},
	} {
		if r, e := gall.Spread(x.l, x.colour, x.place); r != x.spread || e != x.e {
			t.Error(i, r, e)
		}
	}
}

// P5.3
func TestWindowAndBounds(t *testing.T) {
	// the colour 0 has no window, but its ends push those that come behind, and before
	pushing := func(lo, hi int64) api.GallList {
		return paired(windowed(from(lo, hi), from(0, 3), from(0, 3), from(0, 3)), [2]int{1, 0}, [2]int{0, 2}, [2]int{2, 3})
	}
	empty := pushing(2, 1)
	empty.Colours[0] = api.GallColour{Strength: from(500, 515), Least: 490, Most: 495}
	for i, x := range []struct {
		l              api.GallList
		colour         int
		window, bounds api.Range
		e, f           api.Errno
	}{
		{chapterL(), 0, from(0, 3), from(0, 3), api.OK, api.OK},
		{chapterL(), 1, from(0, 1), from(1, 1), api.OK, api.OK},
		{chapterL(), 2, from(2, 3), from(2, 3), api.OK, api.OK},
		{chapterL(), 3, from(0, 1), from(0, 0), api.OK, api.OK},
		{free(1), 0, from(0, 0), from(0, 0), api.OK, api.OK},
		{free(10), 9, from(0, 9), from(0, 9), api.OK, api.OK},
		{chain(10), 9, from(0, 9), from(0, 0), api.OK, api.OK},
		{chain(10), 4, from(0, 9), from(5, 5), api.OK, api.OK},
		{chain(10), 0, from(0, 9), from(9, 9), api.OK, api.OK},
		{list(10, 50, 50, 45, 50), 0, from(0, 0), from(0, 0), api.OK, api.OK},
		{list(10, 50, 50, 51, 60), 0, from(0, 0), from(0, 0), api.ErrPush, api.ErrPush}, // from 0 to -1
		{list(10, 50, 50, 30, 49), 0, from(0, 0), from(0, 0), api.ErrPush, api.ErrPush}, // from 1 to 0
		{list(10, 50, 60, 50, 59), 0, from(0, 0), from(0, 0), api.ErrPush, api.ErrPush},
		{list(1, 0, 0, 1000, 1000), 0, from(0, 0), from(0, 0), api.ErrPush, api.ErrPush},
		{list(1, 1000, 1000, 0, 0), 0, from(0, 0), from(0, 0), api.ErrPush, api.ErrPush},
		// a place just suits, or just not
		{alike(4, 10, 50, 55, 30, 45), 0, from(1, 2), from(1, 2), api.OK, api.OK},
		{alike(4, 10, 50, 55, 31, 45), 0, from(1, 1), from(1, 1), api.OK, api.OK},
		{alike(4, 10, 50, 55, 30, 44), 0, from(2, 2), from(2, 2), api.OK, api.OK},
		{alike(4, 10, 50, 55, 31, 44), 0, from(0, 0), from(0, 0), api.ErrPush, api.ErrPush},
		// bounds without a place, of a window with some
		{pushing(2, 2), 0, from(2, 2), from(0, 0), api.OK, api.ErrPush},
		{pushing(2, 2), 1, from(0, 3), from(0, 0), api.OK, api.OK},
		{pushing(2, 2), 2, from(0, 3), from(0, 0), api.OK, api.ErrPush}, // from 3 to 2
		{pushing(2, 2), 3, from(0, 3), from(0, 0), api.OK, api.ErrPush}, // from 4 to 3
		{pushing(0, 1), 0, from(0, 1), from(1, 1), api.OK, api.OK},
		{pushing(0, 1), 2, from(0, 3), from(2, 2), api.OK, api.OK},
		{pushing(0, 1), 3, from(0, 3), from(3, 3), api.OK, api.OK},
		// no window, but its ends are 2 and 1
		{empty, 0, from(0, 0), from(0, 0), api.ErrPush, api.ErrPush},
		{empty, 1, from(0, 3), from(0, 0), api.OK, api.OK},
		{empty, 2, from(0, 3), from(0, 0), api.OK, api.ErrPush},
		{chapterL(), 4, from(0, 0), from(0, 0), api.ErrArg, api.ErrArg},
		{chapterL(), -1, from(0, 0), from(0, 0), api.ErrArg, api.ErrArg},
		{free(1), math.MaxInt, from(0, 0), from(0, 0), api.ErrArg, api.ErrArg},
		{free(1), math.MinInt, from(0, 0), from(0, 0), api.ErrArg, api.ErrArg},
	} {
		if r, e := gall.Window(x.l, x.colour); r != x.window || e != x.e {
			t.Error("Window", i, r, e)
		}
		if r, e := gall.Bounds(x.l, x.colour); r != x.bounds || e != x.f {
			t.Error("Bounds", i, r, e)
		}
	}
}

// P5.4
func TestCheckOrder(t *testing.T) {
	for i, x := range []struct {
		l     api.GallList
		order []int
		e     api.Errno
	}{
		{chapterL(), of(3, 1, 2, 0), api.OK},
		{chapterL(), of(3, 1, 0, 2), api.OK},
		{chapterL(), of(1, 3, 2, 0), api.ErrRule},
		{chapterL(), of(3, 0, 1, 2), api.ErrPush},
		{chapterL(), of(1, 2, 3, 0), api.ErrPush}, // before ErrRule, though the pair comes first
		{chapterL(), of(1, 3, 0, 2), api.ErrRule},
		{chapterL(), nil, api.ErrEqual},
		{chapterL(), of(3, 1, 2), api.ErrEqual},
		{chapterL(), of(3, 1, 2, 2), api.ErrEqual},
		{chapterL(), of(3, 1, 2, 0, 0), api.ErrEqual},
		{chapterL(), of(3, 1, 2, 4), api.ErrEqual},
		{chapterL(), of(3, 1, 2, -1), api.ErrEqual},
		{chapterL(), of(math.MinInt, math.MaxInt, 2, 0), api.ErrEqual},
		{chapterL(), make([]int, 70000), api.ErrEqual},
		{free(1), of(0), api.OK},
		{chain(10), of(9, 8, 7, 6, 5, 4, 3, 2, 1, 0), api.OK},
		{chain(10), of(9, 8, 7, 6, 5, 4, 3, 2, 0, 1), api.ErrRule},
		{chain(10), of(8, 9, 7, 6, 5, 4, 3, 2, 1, 0), api.ErrRule},
	} {
		if e := gall.CheckOrder(x.l, x.order); e != x.e {
			t.Error(i, e, x.e)
		}
	}
}

// P5.5 and P5.8
func TestOrderAndCount(t *testing.T) {
	three := windowed(from(1, 2), from(0, 2), from(0, 1))
	for i, x := range []struct {
		l     api.GallList
		order []int
		count int64
		e     api.Errno
	}{
		{chapterL(), of(3, 1, 0, 2), 2, api.OK},
		{chapterM(), nil, 0, api.ErrPlan},
		{free(1), of(0), 1, api.OK},
		{free(10), of(0, 1, 2, 3, 4, 5, 6, 7, 8, 9), 3628800, api.OK},
		{paired(free(10), [2]int{9, 0}), of(1, 2, 3, 4, 5, 6, 7, 8, 9, 0), 1814400, api.OK},
		{chain(10), of(9, 8, 7, 6, 5, 4, 3, 2, 1, 0), 1, api.OK},
		{three, of(1, 2, 0), 3, api.OK},
		{paired(three, [2]int{0, 1}), of(2, 0, 1), 1, api.OK},
		{paired(three, [2]int{0, 1}, [2]int{1, 2}), nil, 0, api.ErrPlan},
		{windowed(from(1, 1), from(0, 0)), of(1, 0), 1, api.OK},
		{windowed(from(0, 0), from(0, 0)), nil, 0, api.ErrPlan},
		{windowed(from(1, 1), from(1, 1)), nil, 0, api.ErrPlan},
		{alike(10, 1, 1000, 1000, 0, 0), nil, 0, api.ErrPlan},
		{alike(10, 1, 0, 0, 1000, 1000), nil, 0, api.ErrPlan},
		{alike(10, 100, 900, 900, 0, 900), of(0, 1, 2, 3, 4, 5, 6, 7, 8, 9), 3628800, api.OK},
		{alike(10, 100, 899, 900, 0, 900), nil, 0, api.ErrPlan},
		{alike(10, 100, 900, 901, 0, 900), nil, 0, api.ErrPlan},
	} {
		if l, e := gall.Order(x.l); !slices.Equal(l, x.order) || e != x.e {
			t.Error(i, l, e)
		}
		if n := mustCount(t, x.l); n != x.count {
			t.Error(i, n)
		}
	}
}

// P5.6
func TestCheckBlock(t *testing.T) {
	crowd := alike(10, 1, 0, 0, 1000, 1000) // bounds from 0 to -1000
	for i, x := range []struct {
		l api.GallList
		b api.GallBlock
		e api.Errno
	}{
		{chapterM(), block(0, 1, 0, 1, 3), api.OK},
		{chapterM(), block(0, 1, 1, 3), api.ErrSum},
		{chapterM(), block(0, 2, 0, 1, 3), api.ErrSum},
		{chapterM(), block(-1, 1, 0, 1, 3), api.ErrSum},
		{chapterM(), block(1, 1, 0, 1, 3), api.ErrSum},
		{chapterM(), block(0, 0, 0, 1, 3), api.ErrSum},
		{chapterM(), block(0, 1, 0, 1, 2, 3), api.ErrSum},
		{chapterL(), block(0, 1, 0, 1, 3), api.ErrSum},
		{chapterL(), block(0, 3, 0, 1, 2, 3), api.ErrSum},
		{chapterL(), block(0, 1, 1, 3), api.ErrSum},
		{chapterM(), block(0, 1), api.ErrRange},
		{chapterM(), block(0, 1, 0, 1, 4), api.ErrRange},
		{chapterM(), block(0, 1, -1, 1, 3), api.ErrRange},
		{chapterM(), block(0, 1, 0, 3, 1), api.ErrRange},
		{chapterM(), block(0, 1, 0, 0, 1, 3), api.ErrRange},
		{chapterM(), block(0, 1, math.MinInt, math.MaxInt), api.ErrRange},
		{chapterM(), block(0, 1, make([]int, 70000)...), api.ErrRange},
		{chapterM(), block(0, 2001, 0, 1, 3), api.ErrRange},
		{chapterM(), block(-2001, 1, 0, 1, 3), api.ErrRange},
		{chapterM(), block(2001, 2002, 0, 1, 3), api.ErrRange},
		{chapterM(), block(-2002, -2001, 0, 1, 3), api.ErrRange},
		{chapterM(), block(math.MinInt64, math.MaxInt64, 0, 1, 3), api.ErrRange},
		{chapterM(), block(math.MaxInt64, math.MinInt64, 0, 1, 3), api.ErrRange},
		{chapterM(), block(0, 2000, 0, 1, 3), api.ErrSum},
		{chapterM(), block(-2000, 1, 0, 1, 3), api.ErrSum},
		{chapterM(), block(2000, -2000, 0), api.ErrSum},
		{crowd, block(0, -1000, 0), api.OK}, // a block may end before it begins
		{crowd, block(0, -1, 9), api.OK},
		{crowd, block(0, 0, 0), api.ErrSum},
		{crowd, block(0, 0, 0, 1), api.OK},
		{crowd, block(-2000, -1000, 0), api.ErrSum},
		{crowd, block(-2000, 2000, 0, 1, 2, 3, 4, 5, 6, 7, 8, 9), api.ErrSum},
		{crowd, block(-1, 7, 0, 1, 2, 3, 4, 5, 6, 7, 8, 9), api.OK},
		{crowd, block(-1, 8, 0, 1, 2, 3, 4, 5, 6, 7, 8, 9), api.ErrSum},
		{crowd, block(1, 5, 0, 1, 2, 3, 4, 5, 6, 7, 8, 9), api.ErrSum},
		{crowd, block(0, -1001, 0), api.ErrSum},
	} {
		if e := gall.CheckBlock(x.l, x.b); e != x.e {
			t.Error(i, e, x.e)
		}
	}
}

// P5.6
func TestBlock(t *testing.T) {
	// bounds from 1000 on that are pushed on, and up to -1000 that are pushed back
	far := paired(alike(3, 1, 1000, 1000, 0, 0), [2]int{0, 1}, [2]int{1, 2})
	back := paired(alike(3, 1, 0, 0, 1000, 1000), [2]int{0, 1}, [2]int{1, 2})
	for i, x := range []struct {
		l api.GallList
		b api.GallBlock
		e api.Errno
	}{
		{chapterM(), block(0, 1, 0, 1, 3), api.OK},
		{chapterL(), block(0, 0), api.ErrNone},
		{free(10), block(0, 0), api.ErrNone},
		{windowed(from(0, 0), from(0, 0)), block(0, 0, 0, 1), api.OK},
		{windowed(from(1, 1), from(1, 1)), block(1, 1, 0, 1), api.OK},
		// several blocks: the least From, then the least To, and all colours that they allow
		{windowed(from(2, 3), from(0, 1), from(0, 1), from(0, 0), from(3, 3), from(3, 3)), block(0, 1, 1, 2, 3), api.OK},
		{windowed(from(1, 2), from(1, 2), from(1, 2), from(1, 1), from(1, 1)), block(1, 1, 3, 4), api.OK},
		{windowed(from(0, 3), from(1, 1), from(1, 1), from(0, 1)), block(0, 1, 1, 2, 3), api.OK},
		// a colour without a place makes a block that ends before it begins
		{list(10, 50, 50, 51, 60), block(0, -1, 0), api.OK},
		{list(10, 50, 50, 30, 49), block(1, 0, 0), api.OK},
		{list(1, 0, 0, 1000, 1000), block(0, -1000, 0), api.OK},
		{list(1, 1000, 1000, 0, 0), block(1000, 0, 0), api.OK},
		{far, block(1000, 0, 0), api.OK},
		{back, block(0, -1002, 0), api.OK},
		// from the Lo of one colour to the Hi of another one there is no place, but no colour either
		{windowed(from(2, 2), from(2, 2), from(0, 0)), block(2, 2, 0, 1), api.OK},
		{windowed(from(3, 3), from(3, 3), from(0, 0), from(1, 1)), block(3, 3, 0, 1), api.OK},
	} {
		if b, e := gall.Block(x.l); !sameBlock(b, x.b) || e != x.e {
			t.Error(i, b, e)
		}
	}
}

// P5.7
func TestPlaces(t *testing.T) {
	for i, x := range []struct {
		l      api.GallList
		colour int
		places []int
		e      api.Errno
	}{
		{chapterL(), 0, of(2, 3), api.OK},
		{chapterL(), 1, of(1), api.OK},
		{chapterL(), 2, of(2, 3), api.OK},
		{chapterL(), 3, of(0), api.OK},
		{free(1), 0, of(0), api.OK},
		{free(10), 5, of(0, 1, 2, 3, 4, 5, 6, 7, 8, 9), api.OK},
		{chain(10), 3, of(6), api.OK},
		// the places 1 and 2 are taken by others, though they are within the bounds
		{windowed(from(0, 3), from(1, 2), from(1, 2), from(0, 3)), 0, of(0, 3), api.OK},
		{windowed(from(0, 3), from(1, 2), from(1, 2), from(0, 3)), 2, of(1, 2), api.OK},
		{chapterM(), 0, nil, api.ErrPlan},
		{chapterM(), 2, nil, api.ErrPlan},
		{chapterM(), 4, nil, api.ErrArg},
		{chapterL(), 4, nil, api.ErrArg},
		{chapterL(), -1, nil, api.ErrArg},
		{chapterL(), math.MinInt, nil, api.ErrArg},
		{chapterL(), math.MaxInt, nil, api.ErrArg},
	} {
		if l, e := gall.Places(x.l, x.colour); !slices.Equal(l, x.places) || e != x.e {
			t.Error(i, l, e)
		}
	}
}

// P5.7
func TestMust(t *testing.T) {
	for i, x := range []struct {
		l        api.GallList
		one, two int
		must     bool
		e        api.Errno
	}{
		{chapterL(), 1, 0, true, api.OK}, // without a pair
		{chapterL(), 0, 1, false, api.OK},
		{chapterL(), 0, 2, false, api.OK},
		{chapterL(), 2, 0, false, api.OK},
		{chapterL(), 3, 1, true, api.OK}, // by a pair
		{chapterL(), 1, 3, false, api.OK},
		{chapterL(), 0, 0, false, api.OK},
		{chapterL(), 3, 3, false, api.OK},
		{chain(10), 9, 0, true, api.OK}, // by many pairs
		{chain(10), 0, 9, false, api.OK},
		{free(1), 0, 0, false, api.OK},
		{paired(free(3), [2]int{0, 1}), 0, 2, false, api.OK},
		{paired(free(3), [2]int{0, 1}), 0, 1, true, api.OK},
		{chapterM(), 0, 0, false, api.ErrPlan},
		{chapterM(), 3, 1, false, api.ErrPlan},
		{chapterM(), 4, 1, false, api.ErrArg},
		{chapterL(), 4, 1, false, api.ErrArg},
		{chapterL(), 1, 4, false, api.ErrArg},
		{chapterL(), -1, 1, false, api.ErrArg},
		{chapterL(), 1, -1, false, api.ErrArg},
		{chapterL(), 4, 4, false, api.ErrArg},
		{chapterL(), math.MinInt, math.MaxInt, false, api.ErrArg},
	} {
		if b, e := gall.Must(x.l, x.one, x.two); b != x.must || e != x.e {
			t.Error(i, b, e)
		}
	}
}

// P5.9
func TestSwaps(t *testing.T) {
	for i, x := range []struct {
		l     api.GallList
		order []int
		swaps []int
		e     api.Errno
	}{
		{chapterL(), of(3, 1, 0, 2), of(2), api.OK},
		{chapterL(), of(3, 1, 2, 0), of(2), api.OK},
		{free(1), of(0), nil, api.OK},
		{free(2), of(1, 0), of(0), api.OK},
		{free(10), of(9, 8, 7, 6, 5, 4, 3, 2, 1, 0), of(0, 1, 2, 3, 4, 5, 6, 7, 8), api.OK},
		{chain(10), of(9, 8, 7, 6, 5, 4, 3, 2, 1, 0), nil, api.OK},
		{paired(free(4), [2]int{0, 1}), of(0, 1, 2, 3), of(1, 2), api.OK},
		{paired(free(4), [2]int{0, 2}), of(0, 1, 2, 3), of(0, 1, 2), api.OK},
		{windowed(from(0, 2), from(0, 0), from(1, 2)), of(1, 0, 2), of(1), api.OK}, // one of both does not suit the place before
		{windowed(from(0, 0), from(0, 2), from(1, 2)), of(0, 1, 2), of(1), api.OK}, // or the place behind
		{chapterL(), of(1, 3, 2, 0), nil, api.ErrRule},
		{chapterL(), of(3, 0, 1, 2), nil, api.ErrPush},
		{chapterL(), of(3, 1, 2), nil, api.ErrEqual},
		{chapterL(), of(3, 1, 2, 2), nil, api.ErrEqual},
		{chapterL(), nil, nil, api.ErrEqual},
		{chapterM(), of(3, 1, 0, 2), nil, api.ErrPush},
	} {
		if l, e := gall.Swaps(x.l, x.order); !slices.Equal(l, x.swaps) || e != x.e {
			t.Error(i, l, e)
		}
	}
}
