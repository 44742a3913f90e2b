package seam_test

import (
	"math"
	"slices"
	"testing"

	"oxgall/api"
	"oxgall/seam"
)

// P4.1
func TestCheckSet(t *testing.T) {
	for i, x := range []struct {
		s api.SeamSet
		e api.Errno
	}{
		{chapterT(), api.OK},
		{chapterU(), api.OK},
		{set(1, 0, 1), api.OK},
		{set(1000, 999, 10000), api.OK},
		{alike(1000, 8, 999, 10000), api.OK},
		{api.SeamSet{}, api.ErrArg},
		{set(0, 0, 1), api.ErrArg},
		{set(-1, 0, 1), api.ErrArg},
		{set(1001, 0, 1), api.ErrArg},
		{set(math.MaxInt64, 0, 1), api.ErrArg},
		{set(math.MinInt64, 0, 1), api.ErrArg},
		{set(10), api.ErrMany},
		{alike(10, 9, 0, 1), api.ErrMany},
		{alike(10, 5000, 0, 1), api.ErrMany},
		{set(10, -1, 1), api.ErrRange},
		{set(10, 10, 1), api.ErrRange},
		{set(10, 9, 0), api.ErrRange},
		{set(10, 9, -4), api.ErrRange},
		{set(10, 9, 10001), api.ErrRange},
		{set(10, 0, 1, 3, 4, 10, 1), api.ErrRange},
		{set(10, 0, 1, 3, 0, 9, 1), api.ErrRange},
		{set(10, math.MinInt64, math.MaxInt64), api.ErrRange},
		{set(10, math.MaxInt64, math.MaxInt64), api.ErrRange},
		{set(10, 5, math.MinInt64), api.ErrRange},
		// of several errors the one that is named first
		{set(0), api.ErrArg},
		{alike(1001, 9, 2000, 0), api.ErrArg},
		{alike(10, 9, 10, 0), api.ErrMany},
	} {
		if e := seam.CheckSet(x.s); e != x.e {
			t.Error(i, e, x.e)
		}
	}
}

// The error of CheckSet comes before all others, and with it zero values.
func TestInvalidSet(t *testing.T) {
	for _, x := range []struct {
		s api.SeamSet
		e api.Errno
	}{
		{set(0, 0, 1, 0, 1), api.ErrArg},
		{set(1001, 0, 1, 0, 1), api.ErrArg},
		{set(10), api.ErrMany},
		{alike(10, 9, 0, 1), api.ErrMany},
		{set(10, 0, 1, 10, 1), api.ErrRange},
		{set(10, 0, 1, 0, 0), api.ErrRange},
	} {
		for _, n := range parts(0, 1, 99, -1) {
			list := parts(n, n)
			if e := seam.Continues(x.s, list); e != x.e {
				t.Error("Continues", e, x.e)
			}
			if n, e := seam.Over(x.s, int64(n)); e != x.e || n != 0 {
				t.Error("Over", n, e, x.e)
			}
			if n, e := seam.CheckOrder(x.s, list); e != x.e || n != 0 {
				t.Error("CheckOrder", n, e, x.e)
			}
			if l, e := seam.Waste(x.s, list); e != x.e || len(l) > 0 {
				t.Error("Waste", l, e, x.e)
			}
			if e := seam.CheckApart(x.s, list); e != x.e {
				t.Error("CheckApart", e, x.e)
			}
			if k, e := seam.Kind(x.s, n, 1); e != x.e || k != 0 {
				t.Error("Kind", k, e, x.e)
			}
		}
		if n, p, e := seam.Peak(x.s); e != x.e || n != 0 || p != 0 {
			t.Error("Peak", n, p, e, x.e)
		}
		if l, n, e := seam.Best(x.s); e != x.e || len(l) > 0 || n != 0 {
			t.Error("Best", l, n, e, x.e)
		}
		if l, e := seam.Apart(x.s); e != x.e || len(l) > 0 {
			t.Error("Apart", l, e, x.e)
		}
		if l, e := seam.Groups(x.s); e != x.e || len(l) > 0 {
			t.Error("Groups", l, e, x.e)
		}
		if n, e := seam.Count(x.s); e != x.e || n != 0 {
			t.Error("Count", n, e, x.e)
		}
	}
}

// P4.2
func TestSide(t *testing.T) {
	long := func(l ...int64) []int64 { return l }
	for i, x := range []struct {
		period, from int64
		longs        []int64
		s            api.SeamSet
		e            api.Errno
	}{
		{10, 7, long(5, 8, 3), set(10, 7, 5, 2, 8, 0, 3), api.OK},
		{10, 0, long(10), set(10, 0, 10), api.OK},
		{10, 9, long(1, 10, 20, 1), set(10, 9, 1, 0, 10, 0, 20, 0, 1), api.OK},
		{1, 0, long(10000, 1), set(1, 0, 10000, 0, 1), api.OK},
		{1000, 999, slices.Repeat(long(9999), 8), set(1000, 999, 9999, 998, 9999, 997, 9999, 996, 9999, 995, 9999, 994, 9999, 993, 9999, 992, 9999), api.OK},
		{0, 0, long(1), api.SeamSet{}, api.ErrArg},
		{-3, -4, long(1), api.SeamSet{}, api.ErrArg},
		{1001, 0, long(1), api.SeamSet{}, api.ErrArg},
		{math.MinInt64, 0, long(1), api.SeamSet{}, api.ErrArg},
		{math.MaxInt64, 0, long(1), api.SeamSet{}, api.ErrArg},
		{10, 0, nil, api.SeamSet{}, api.ErrMany},
		{10, 0, slices.Repeat(long(1), 9), api.SeamSet{}, api.ErrMany},
		{10, -1, long(1), api.SeamSet{}, api.ErrRange},
		{10, 10, long(1), api.SeamSet{}, api.ErrRange},
		{10, math.MinInt64, long(1), api.SeamSet{}, api.ErrRange},
		{10, math.MaxInt64, long(1), api.SeamSet{}, api.ErrRange},
		{10, 0, long(0), api.SeamSet{}, api.ErrRange},
		{10, 0, long(5, 10001, 5), api.SeamSet{}, api.ErrRange},
		{10, 0, long(5, 5, -5), api.SeamSet{}, api.ErrRange},
		{10, 9, long(math.MaxInt64, math.MinInt64), api.SeamSet{}, api.ErrRange},
		// of several errors the one that is named first
		{0, 9, nil, api.SeamSet{}, api.ErrArg},
		{10, 10, nil, api.SeamSet{}, api.ErrMany},
		{10, 10, slices.Repeat(long(0), 9), api.SeamSet{}, api.ErrMany},
	} {
		s, e := seam.Side(x.period, x.from, x.longs)
		if e != x.e || s.Period != x.s.Period || !slices.Equal(s.Parts, x.s.Parts) {
			t.Error(i, s, e)
		}
	}
}

// P4.2
func TestContinues(t *testing.T) {
	same := alike(10, 2, 4, 20)
	for i, x := range []struct {
		s   api.SeamSet
		row []int
		e   api.Errno
	}{
		{chapterT(), parts(0, 1), api.OK},
		{chapterT(), parts(0, 2), api.ErrSeam},
		{chapterT(), parts(0, 1, 1), api.ErrSeam},
		{chapterT(), parts(1, 0), api.ErrSeam},
		{chapterT(), parts(2, 0, 1), api.OK}, // from the end of the period on
		{chapterT(), nil, api.OK},
		{chapterT(), parts(3), api.OK},
		{chapterT(), parts(4), api.ErrRange},
		{chapterT(), parts(-1), api.ErrRange},
		{chapterT(), parts(3, 0, 4), api.ErrRange},
		{chapterT(), parts(0, 1, math.MinInt), api.ErrRange},
		{chapterT(), parts(math.MaxInt, 0), api.ErrRange},
		// a part can come several times, in a row of any length
		{same, slices.Repeat(parts(1, 1, 0), 3000), api.OK},
		{same, append(slices.Repeat(parts(1, 1, 0), 3000), 2), api.ErrRange},
		{set(10, 4, 20, 5, 9), parts(0, 0, 0, 1), api.ErrSeam},
		{set(1, 0, 1, 0, 7), parts(1, 0, 1), api.OK},
	} {
		if e := seam.Continues(x.s, x.row); e != x.e {
			t.Error(i, e, x.e)
		}
	}
}

// P4.3
func TestOver(t *testing.T) {
	round := set(10, 7, 25) // round the period twice, and from 7 to 1 once more
	for i, x := range []struct {
		s     api.SeamSet
		place int64
		over  int64
		e     api.Errno
	}{
		{chapterT(), 0, 1, api.OK},
		{chapterT(), 2, 2, api.OK},
		{chapterT(), 3, 1, api.OK},
		{chapterT(), 7, 2, api.OK},
		{chapterT(), 9, 1, api.OK},
		{chapterT(), 10, 0, api.ErrRange},
		{chapterT(), -1, 0, api.ErrRange},
		{chapterT(), math.MaxInt64, 0, api.ErrRange},
		{chapterT(), math.MinInt64, 0, api.ErrRange},
		{round, 6, 2, api.OK},
		{round, 7, 3, api.OK},
		{round, 9, 3, api.OK},
		{round, 0, 3, api.OK},
		{round, 1, 3, api.OK},
		{round, 2, 2, api.OK},
		{set(10, 3, 2), 2, 0, api.OK},
		{set(10, 3, 2), 5, 0, api.OK},
		{set(10, 3, 2), 4, 1, api.OK},
		{alike(1, 8, 0, 10000), 0, 80000, api.OK},
		{alike(1, 8, 0, 10000), 1, 0, api.ErrRange},
		{set(1000, 999, 1), 999, 1, api.OK},
		{set(1000, 999, 1), 998, 0, api.OK},
		{set(1000, 999, 1), 1000, 0, api.ErrRange},
	} {
		if n, e := seam.Over(x.s, x.place); n != x.over || e != x.e {
			t.Error(i, n, e)
		}
	}
}

// P4.4
func TestOrder(t *testing.T) {
	for i, x := range []struct {
		s      api.SeamSet
		order  []int
		wastes []int64
		rounds int64
		e      api.Errno
	}{
		{chapterT(), parts(0, 1, 3, 2), []int64{0, 4, 3, 0}, 2, api.OK},
		{chapterT(), parts(3, 2, 0, 1), []int64{3, 0, 0, 4}, 2, api.OK},
		{chapterT(), parts(0, 1, 2, 3), []int64{0, 8, 2, 7}, 3, api.OK},
		{chapterT(), parts(0, 1, 2), nil, 0, api.ErrEqual},
		{chapterT(), nil, nil, 0, api.ErrEqual},
		{chapterT(), parts(0, 1, 2, 2), nil, 0, api.ErrEqual},
		{chapterT(), parts(0, 1, 2, 4), nil, 0, api.ErrEqual},
		{chapterT(), parts(-1, 1, 2, 3), nil, 0, api.ErrEqual},
		{chapterT(), parts(0, 1, 2, 3, 0), nil, 0, api.ErrEqual},
		{chapterT(), parts(0, math.MinInt, 2, math.MaxInt), nil, 0, api.ErrEqual},
		{chapterU(), parts(1, 0), []int64{7, 3}, 3, api.OK},
		{set(10, 4, 6), parts(0), []int64{4}, 1, api.OK},
		{set(10, 4, 10), parts(0), []int64{0}, 1, api.OK},
		{set(10, 4, 11), parts(0), []int64{9}, 2, api.OK},
		{set(1, 0, 10000), parts(0), []int64{0}, 10000, api.OK},
		{alike(1, 8, 0, 10000), parts(7, 6, 5, 4, 3, 2, 1, 0), make([]int64, 8), 80000, api.OK},
		{alike(1000, 8, 999, 9001), parts(7, 6, 5, 4, 3, 2, 1, 0), slices.Repeat([]int64{999}, 8), 80, api.OK},
	} {
		if n, e := seam.CheckOrder(x.s, x.order); n != x.rounds || e != x.e {
			t.Error(i, n, e)
		}
		if l, e := seam.Waste(x.s, x.order); !slices.Equal(l, x.wastes) || e != x.e {
			t.Error(i, l, e)
		}
	}
}

// P4.3, P4.5, P4.6 and P4.7: sets whose parts hold together, or do not.
func TestBestAndGroups(t *testing.T) {
	for i, x := range []struct {
		s           api.SeamSet
		peak, place int64
		rounds      int64
		groups      [][]int
		count       int
	}{
		{chapterT(), 2, 2, 2, [][]int{{0, 1, 2, 3}}, 2},
		{chapterU(), 2, 0, 3, [][]int{{0}, {1}}, 1},
		{set(10, 4, 6), 1, 4, 1, [][]int{{0}}, 1},
		{set(10, 4, 11), 2, 4, 2, [][]int{{0}}, 1},
		{set(10, 9, 2), 1, 0, 1, [][]int{{0}}, 1},
		{set(1, 0, 10000), 10000, 0, 10000, [][]int{{0}}, 1},
		{alike(1, 8, 0, 10000), 80000, 0, 80000, [][]int{{0, 1, 2, 3, 4, 5, 6, 7}}, 5040},
		{alike(1000, 8, 999, 10000), 80, 0, 80, [][]int{{0, 1, 2, 3, 4, 5, 6, 7}}, 5040},
		{rings(8), 36, 0, 37, [][]int{{0}, {1}, {2}, {3}, {4}, {5}, {6}, {7}}, 1},
		{set(10, 0, 3, 3, 3, 6, 4), 1, 0, 1, [][]int{{0, 1, 2}}, 1},
		// the stretch leads over the end of the period
		{set(10, 2, 6, 1, 7, 3, 5), 3, 3, 3, [][]int{{0, 1, 2}}, 2},
		// two stretches: each part stays in one
		{set(10, 0, 10, 5, 10, 0, 20, 5, 20), 6, 0, 7, [][]int{{0, 2}, {1, 3}}, 4},
		// all places are full, but a third part leads from one point to the other one, and back
		{set(10, 0, 10, 5, 10, 0, 5, 5, 5), 3, 0, 3, [][]int{{0, 1, 2, 3}}, 1},
	} {
		if n, p, e := seam.Peak(x.s); n != x.peak || p != x.place || e != api.OK {
			t.Error(i, n, p, e)
		}
		best, n, e := seam.Best(x.s)
		if n != x.rounds || e != api.OK || best[0] != 0 || mustRounds(t, x.s, best) != n {
			t.Error(i, best, n, e)
		}
		groups := mustGroups(t, x.s)
		if !slices.EqualFunc(groups, x.groups, slices.Equal[[]int]) {
			t.Error(i, groups)
		}
		apart, e := seam.Apart(x.s)
		if len(x.groups) == 1 && (e != api.ErrNone || len(apart) > 0) || len(x.groups) > 1 && (e != api.OK || !slices.Equal(apart, x.groups[0])) {
			t.Error(i, apart, e)
		}
		if n, e := seam.Count(x.s); n != x.count || e != api.OK {
			t.Error(i, n, e)
		}
	}
}

// P4.6
func TestCheckApart(t *testing.T) {
	two := set(10, 0, 10, 5, 10, 0, 20, 7, 20, 5, 30)
	for i, x := range []struct {
		s     api.SeamSet
		group []int
		e     api.Errno
	}{
		{chapterU(), parts(1), api.OK},
		{chapterU(), parts(0), api.OK},
		{chapterU(), parts(0, 1), api.ErrSum},
		{chapterU(), nil, api.ErrSum},
		{chapterU(), parts(1, 0), api.ErrRange},
		{chapterU(), parts(1, 1), api.ErrRange},
		{chapterU(), parts(2), api.ErrRange},
		{chapterU(), parts(-1, 0), api.ErrRange},
		{chapterU(), parts(0, math.MaxInt), api.ErrRange},
		{chapterU(), parts(math.MinInt), api.ErrRange},
		{two, parts(0, 2), api.OK},
		{two, parts(1, 4), api.OK},
		{two, parts(3), api.OK},
		{two, parts(0, 2, 3), api.OK},
		{two, parts(0, 1, 2, 4), api.OK},
		{two, parts(0), api.ErrSum},
		{two, parts(0, 3), api.ErrSum},
		{two, parts(0, 1, 2, 3), api.ErrSum},
		{two, parts(0, 1, 2, 3, 4), api.ErrSum},
		{chapterT(), parts(0, 1, 2), api.ErrSum},
		{set(10, 3, 5), parts(0), api.ErrSum},
		{set(10, 3, 5), nil, api.ErrSum},
		{set(10, 3, 5), make([]int, 5000), api.ErrRange},
	} {
		if e := seam.CheckApart(x.s, x.group); e != x.e {
			t.Error(i, e, x.e)
		}
	}
}

// P4.7
func TestKind(t *testing.T) {
	for i, x := range []struct {
		s        api.SeamSet
		one, two int
		kind     int
		e        api.Errno
	}{
		{chapterT(), 0, 1, api.SeamMay, api.OK},
		{chapterT(), 3, 0, api.SeamNever, api.OK},
		{chapterT(), 2, 0, api.SeamMay, api.OK}, // the first one right behind the last one
		{chapterU(), 0, 1, api.SeamAlways, api.OK},
		{chapterU(), 1, 0, api.SeamAlways, api.OK},
		{chapterU(), 0, 0, 0, api.ErrArg},
		{chapterU(), 0, 2, 0, api.ErrArg},
		{chapterU(), 2, 0, 0, api.ErrArg},
		{chapterU(), -1, 1, 0, api.ErrArg},
		{chapterU(), 7, 7, 0, api.ErrArg},
		{chapterU(), math.MaxInt, math.MinInt, 0, api.ErrArg},
		{set(10, 0, 5), 0, 0, 0, api.ErrArg},
		{set(10, 0, 5), 0, 1, 0, api.ErrArg},
		{rings(8), 7, 0, api.SeamAlways, api.OK},
		{rings(8), 0, 7, api.SeamNever, api.OK},
		{rings(8), 3, 4, api.SeamAlways, api.OK},
		{rings(8), 3, 5, api.SeamNever, api.OK},
		{alike(1000, 8, 0, 10000), 7, 0, api.SeamMay, api.OK},
		{alike(1000, 8, 0, 10000), 3, 2, api.SeamMay, api.OK},
	} {
		if k, e := seam.Kind(x.s, x.one, x.two); k != x.kind || e != x.e {
			t.Error(i, k, e)
		}
	}
}
