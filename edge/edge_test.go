package edge_test

import (
	"math"
	"slices"
	"testing"

	"oxgall/api"
	"oxgall/edge"
)

// P10.1
func TestCheckDay(t *testing.T) {
	for i, x := range []struct {
		d api.EdgeDay
		e api.Errno
	}{
		{chapterD(), api.OK},
		{day(1, 0), api.OK},
		{day(4, 7), api.OK},
		{round(1, 24, 8), api.OK},
		{round(4, 24, 8), api.OK},
		{alike(3, 24, 7), api.OK},
		{day(0, 0), api.ErrArg},
		{day(5, 0), api.ErrArg},
		{day(-1, 0), api.ErrArg},
		{day(math.MinInt, 0), api.ErrArg},
		{day(math.MaxInt, 0), api.ErrArg},
		{day(1), api.ErrMany},
		{day(4, none(0)...), api.ErrMany},
		{round(2, 25, 8), api.ErrMany},
		{round(2, 70000, 8), api.ErrMany},
		{day(1, -1), api.ErrRange},
		{day(1, 8), api.ErrRange},
		{day(1, math.MinInt), api.ErrRange},
		{day(1, math.MaxInt), api.ErrRange},
		{day(2, 0, 1, 8), api.ErrRange},
		{day(2, -1, 1, 0), api.ErrRange},
		{round(4, 24, 9), api.ErrRange},
		// of several errors the one that is named first
		{api.EdgeDay{}, api.ErrArg},
		{day(0, 8), api.ErrArg},
		{round(5, 25, 9), api.ErrArg},
		{round(1, 25, 9), api.ErrMany},
	} {
		if e := edge.CheckDay(x.d); e != x.e {
			t.Error(i, e, x.e)
		}
	}
}

// The error of CheckDay comes before all others, and with it zero values.
func TestInvalidDay(t *testing.T) {
	for _, x := range []struct {
		d api.EdgeDay
		e api.Errno
	}{
		{day(0, 0, 1), api.ErrArg},
		{day(5, 0, 1), api.ErrArg},
		{day(2), api.ErrMany},
		{round(2, 25, 3), api.ErrMany},
		{day(2, 0, 8), api.ErrRange},
		{day(2, -1, 0), api.ErrRange},
	} {
		for _, list := range [][]int{nil, none(len(x.d.Books)), of(7, 7), of(1, 0)} {
			likePlan(t, x.d, list, x.e)
			if number, e := edge.CheckMoments(x.d, list); e != x.e || number != 0 {
				t.Error("CheckMoments", number, e, x.e)
			}
			for _, book := range of(0, -1, 2, math.MinInt, math.MaxInt) {
				likeBook(t, x.d, list, book, x.e)
			}
		}
		if plan, fetches, e := edge.Best(x.d); e != x.e || fetches != 0 || len(plan) > 0 {
			t.Error("Best", plan, fetches, e, x.e)
		}
		if moments, e := edge.Moments(x.d); e != x.e || len(moments) > 0 {
			t.Error("Moments", moments, e, x.e)
		}
		if curve, e := edge.Curve(x.d); e != x.e || len(curve) > 0 {
			t.Error("Curve", curve, e, x.e)
		}
		if many, e := edge.Count(x.d); e != x.e || many != 0 {
			t.Error("Count", many, e, x.e)
		}
	}
}

// A number that is no book gives ErrArg, before the errors of plans.
func TestInvalidBook(t *testing.T) {
	for _, book := range of(-1, 7, 8, 23, 24, math.MinInt, math.MaxInt) {
		for _, plan := range [][]int{nil, none(7), none(6), of(-1, -1, 1, -1, 0, -1, 1)} {
			likeBook(t, chapterD(), plan, book, api.ErrArg)
		}
	}
}

// A list that is no plan gives ErrEqual if it has not a number for each book, and else ErrRule.
func TestInvalidPlan(t *testing.T) {
	for i, x := range []struct {
		d    api.EdgeDay
		plan []int
		e    api.Errno
	}{
		{chapterD(), nil, api.ErrEqual},
		{chapterD(), of(-1, -1, 1, -1, 0, -1), api.ErrEqual},
		{chapterD(), of(-1, -1, 1, -1, 0, -1, 1, -1), api.ErrEqual},
		{chapterD(), none(70000), api.ErrEqual},
		{chapterD(), of(9), api.ErrEqual},
		{day(1, 0), nil, api.ErrEqual},
		{chapterD(), none(7), api.ErrRule},
		// nothing is put back though the bench is full
		{day(1, 0, 1), of(-1, -1), api.ErrRule},
		{chapterD(), of(-1, -1, 1, -1, 0, -1, -1), api.ErrRule},
		// something is put back though there is room
		{day(1, 0), of(0), api.ErrRule},
		{day(2, 0, 1), of(-1, 0), api.ErrRule},
		{day(4, 0, 1, 2, 3), of(-1, -1, -1, 0), api.ErrRule},
		// or though the block lies there
		{day(1, 0, 0), of(-1, 0), api.ErrRule},
		{day(2, 0, 1, 0), of(-1, -1, 1), api.ErrRule},
		{day(2, 0, 1, 0), of(-1, -1, 0), api.ErrRule},
		// what is put back does not lie there
		{day(1, 0, 1), of(-1, 1), api.ErrRule},
		{day(1, 0, 1), of(-1, 2), api.ErrRule},
		{day(1, 0, 1), of(-1, 8), api.ErrRule},
		{day(1, 0, 1), of(-1, -2), api.ErrRule},
		{day(1, 0, 1), of(-1, math.MinInt), api.ErrRule},
		{day(1, 0, 1), of(-1, math.MaxInt), api.ErrRule},
		{day(1, 0, 1, 2), of(-1, 0, 0), api.ErrRule},
		{day(2, 0, 1, 2, 1, 0), of(-1, -1, 0, -1, 0), api.ErrRule},
		// no block, for a book before which nothing is put back
		{day(2, 0, 1), of(-2, -1), api.ErrRule},
		{day(2, 0, 1), of(-1, 8), api.ErrRule},
		{day(2, 0, 0), of(-1, math.MaxInt), api.ErrRule},
	} {
		likePlan(t, x.d, x.plan, x.e)
		for book := range x.d.Books {
			if bench, e := edge.Bench(x.d, x.plan, book); e != x.e || len(bench) > 0 {
				t.Error(i, bench, e, x.e)
			}
		}
	}
}

// likePlan checks that all functions with a plan alone return an error, and with it zero values.
func likePlan(t *testing.T, d api.EdgeDay, plan []int, want api.Errno) {
	t.Helper()
	if fetches, e := edge.Fetches(d, plan); e != want || fetches != 0 {
		t.Error("Fetches", plan, fetches, e, want)
	}
	if kept, e := edge.Kept(d, plan); e != want || len(kept) > 0 {
		t.Error("Kept", plan, kept, e, want)
	}
}

// likeBook checks that all functions with a book return an error, and with it zero values.
func likeBook(t *testing.T, d api.EdgeDay, plan []int, book int, want api.Errno) {
	t.Helper()
	if before, e := edge.Before(d, book); e != want || before != 0 {
		t.Error("Before", book, before, e, want)
	}
	if bench, e := edge.Bench(d, plan, book); e != want || len(bench) > 0 {
		t.Error("Bench", book, bench, e, want)
	}
	if kind, e := edge.Kind(d, book); e != want || kind != 0 {
		t.Error("Kind", book, kind, e, want)
	}
}

// The examples of the chapter.
func TestExamples(t *testing.T) {
	d := chapterD()
	if before, e := edge.Before(d, 3); before != 0 || e != api.OK {
		t.Error(before, e)
	}
	if before, e := edge.Before(d, 2); before != 0 || e != api.ErrNone {
		t.Error(before, e)
	}
	for _, x := range []struct {
		plan    []int
		fetches int
		e       api.Errno
	}{
		{of(-1, -1, 1, -1, 0, -1, 1), 5, api.OK},
		{of(-1, -1, 0, 1, 2, 0, 1), 7, api.OK},
		{of(-1, -1, -1, -1, -1, -1, -1), 0, api.ErrRule},
	} {
		if fetches, e := edge.Fetches(d, x.plan); fetches != x.fetches || e != x.e {
			t.Error(x.plan, fetches, e)
		}
	}
	plan := of(-1, -1, 1, -1, 0, -1, 1)
	if kept, e := edge.Kept(d, plan); !slices.Equal(kept, of(3, 5)) || e != api.OK {
		t.Error(kept, e)
	}
	if bench, e := edge.Bench(d, plan, 4); !slices.Equal(bench, of(1, 2)) || e != api.OK {
		t.Error(bench, e)
	}
	if fetches := mustFetch(t, d); fetches != 5 {
		t.Error(fetches)
	}
	if curve := mustCurve(t, d); !slices.Equal(curve, of(7, 5, 3, 3)) {
		t.Error(curve)
	}
	for i, moments := range [][]int{of(2, 4), of(3), nil} {
		if number, e := edge.CheckMoments(d, moments); number != 5-i || e != api.OK {
			t.Error(moments, number, e)
		}
	}
	if first, fourth := mustKind(t, d, 0), mustKind(t, d, 3); first != api.EdgeAlways || fourth != api.EdgeMay {
		t.Error(first, fourth)
	}
	if many := mustCount(t, d); many != 3 {
		t.Error(many)
	}
}

// P10.2
func TestBefore(t *testing.T) {
	for i, x := range []struct {
		d      api.EdgeDay
		before []int // -1 for those that are new
	}{
		{day(1, 3), of(-1)},
		{day(1, 7, 7, 7), of(-1, 0, 1)},
		{day(4, 0, 1, 2), of(-1, -1, -1)},
		{day(3, 5, 2, 5, 5, 2, 0), of(-1, -1, 0, 2, 1, -1)},
		{day(2, 1, 0, 0, 0, 0, 1), of(-1, -1, 1, 2, 3, 0)},
		{chapterD(), of(-1, -1, -1, 0, 1, 2, 3)},
	} {
		for book, want := range x.before {
			before, e := edge.Before(x.d, book)
			if want < 0 && (before != 0 || e != api.ErrNone) || want >= 0 && (before != want || e != api.OK) {
				t.Error(i, book, before, e)
			}
		}
	}
	if before, e := edge.Before(round(1, 24, 8), 23); before != 15 || e != api.OK {
		t.Error(before, e)
	}
}

// P10.3
func TestPlans(t *testing.T) {
	for i, x := range []struct {
		d       api.EdgeDay
		plan    []int
		fetches int
		kept    []int
		benches [][]int
	}{
		{day(1, 7), of(-1), 1, nil, [][]int{of(7)}},
		{day(1, 0, 0, 1), of(-1, -1, 0), 2, of(1), [][]int{of(0), of(0), of(1)}},
		{day(1, 0, 1, 0), of(-1, 0, 1), 3, nil, [][]int{of(0), of(1), of(0)}},
		{day(4, 3, 2, 1, 0), none(4), 4, nil, [][]int{of(3), of(2, 3), of(1, 2, 3), of(0, 1, 2, 3)}},
		{day(4, 3, 2, 1, 0, 4), of(-1, -1, -1, -1, 2), 5, nil,
			[][]int{of(3), of(2, 3), of(1, 2, 3), of(0, 1, 2, 3), of(0, 1, 3, 4)}},
		{day(3, 6, 5, 6, 5), none(4), 2, of(2, 3), [][]int{of(6), of(5, 6), of(5, 6), of(5, 6)}},
		{day(2, 0, 1, 2, 0, 1), of(-1, -1, 0, 1, 2), 5, nil,
			[][]int{of(0), of(0, 1), of(1, 2), of(0, 2), of(0, 1)}},
		{day(2, 0, 1, 2, 0, 1), of(-1, -1, 1, -1, 0), 4, of(3),
			[][]int{of(0), of(0, 1), of(0, 2), of(0, 2), of(1, 2)}},
		{day(2, 0, 1, 2, 0, 1), of(-1, -1, 0, 2, -1), 4, of(4),
			[][]int{of(0), of(0, 1), of(1, 2), of(0, 1), of(0, 1)}},
	} {
		if fetches, e := edge.Fetches(x.d, x.plan); fetches != x.fetches || e != api.OK {
			t.Error(i, fetches, e)
		}
		if kept, e := edge.Kept(x.d, x.plan); !slices.Equal(kept, x.kept) || e != api.OK {
			t.Error(i, kept, e)
		}
		for book, want := range x.benches {
			if bench, e := edge.Bench(x.d, x.plan, book); !slices.Equal(bench, want) || e != api.OK {
				t.Error(i, book, bench, e)
			}
		}
	}
}

// P10.4, P10.6 and P10.7
func TestBest(t *testing.T) {
	for i, x := range []struct {
		d     api.EdgeDay
		curve []int
		kinds []int
		many  int64
	}{
		{day(1, 0), of(1, 1, 1, 1), of(2), 1},
		{day(4, 7, 7), of(1, 1, 1, 1), of(2, 0), 1},
		{day(1, 0, 1, 0), of(3, 2, 2, 2), of(2, 2, 2), 1},
		{day(2, 0, 1, 0), of(3, 2, 2, 2), of(2, 2, 0), 1},
		{day(2, 0, 1, 2, 0), of(4, 3, 3, 3), of(2, 2, 2, 0), 1},
		{day(2, 0, 1, 2, 0, 1), of(5, 4, 3, 3), of(2, 2, 2, 1, 1), 2},
		{day(2, 0, 1, 2, 1, 0), of(5, 4, 3, 3), of(2, 2, 2, 1, 1), 2},
		{day(2, 0, 1, 2, 2, 1, 0), of(5, 4, 3, 3), of(2, 2, 2, 0, 1, 1), 2},
		{day(3, 0, 1, 2, 3, 0, 1, 2, 3), of(8, 6, 5, 4), of(2, 2, 2, 2, 0, 1, 1, 0), 2},
		{day(4, 0, 1, 2, 3, 0, 1, 2, 3), of(8, 6, 5, 4), of(2, 2, 2, 2, 0, 0, 0, 0), 1},
		{day(1, 0, 1, 2, 3, 0, 1, 2, 3), of(8, 6, 5, 4), of(2, 2, 2, 2, 2, 2, 2, 2), 1},
		// three short waits are better than one long one
		{day(2, 0, 1, 2, 1, 2, 1, 0), of(7, 4, 3, 3), of(2, 2, 2, 0, 0, 0, 2), 1},
	} {
		if fetches := mustFetch(t, x.d); fetches != x.curve[x.d.Room-1] {
			t.Error(i, fetches)
		}
		if curve := mustCurve(t, x.d); !slices.Equal(curve, x.curve) {
			t.Error(i, curve)
		}
		for book, want := range x.kinds {
			if kind := mustKind(t, x.d, book); kind != want {
				t.Error(i, book, kind)
			}
		}
		if many := mustCount(t, x.d); many != x.many {
			t.Error(i, many)
		}
	}
}

// P10.5
func TestCheckMoments(t *testing.T) {
	for i, x := range []struct {
		d       api.EdgeDay
		moments []int
		number  int
		e       api.Errno
	}{
		{day(1, 0), nil, 1, api.OK},
		{day(1, 0), of(0), 1, api.OK},
		{day(4, 0), of(0), -2, api.OK},
		{day(1, 0, 0), of(0, 1), 1, api.OK}, // no moment is between the two
		{day(1, 0, 1, 0), of(0), 2, api.OK},
		{day(1, 0, 1, 0), of(1), 3, api.OK},
		{day(1, 0, 1, 0), of(2), 2, api.OK},
		{day(2, 0, 1, 0), of(1), 2, api.OK},
		{day(3, 0, 1, 0), of(1), 1, api.OK},
		{day(3, 0, 1, 0), of(0, 1, 2), -3, api.OK},
		{chapterD(), of(2, 3), 4, api.OK},
		{chapterD(), of(2, 5), 4, api.OK},
		{chapterD(), of(2, 3, 4), 4, api.OK},
		{chapterD(), of(0, 1, 2, 3, 4, 5, 6), 0, api.OK},
		{round(1, 24, 8), of(7, 15), 22, api.OK},
		{round(2, 24, 8), of(7, 15), 20, api.OK},
		{round(4, 24, 8), of(0, 23), 2, api.OK},
		{chapterD(), of(3, 3), 0, api.ErrRange},
		{chapterD(), of(3, 2), 0, api.ErrRange},
		{chapterD(), of(1, 2, 4, 3), 0, api.ErrRange},
		{chapterD(), of(-1), 0, api.ErrRange},
		{chapterD(), of(7), 0, api.ErrRange},
		{chapterD(), of(-1, 2), 0, api.ErrRange},
		{chapterD(), of(2, 4, 7), 0, api.ErrRange},
		{chapterD(), of(math.MinInt, math.MaxInt), 0, api.ErrRange},
		{chapterD(), make([]int, 70000), 0, api.ErrRange},
	} {
		if number, e := edge.CheckMoments(x.d, x.moments); number != x.number || e != x.e {
			t.Error(i, number, e)
		}
	}
}

// P10.5: moments with the greatest number.
func TestMoments(t *testing.T) {
	for i, x := range []struct {
		d      api.EdgeDay
		number int
	}{
		{day(1, 0), 1},
		{day(4, 0, 0, 0), 1},
		{day(1, 0, 1, 0, 1), 4},
		{day(2, 0, 1, 0, 1), 2},
		{day(4, 0, 1, 2, 3, 0, 1, 2, 3), 4},
		{day(3, 0, 1, 2, 3, 0, 1, 2, 3), 5},
		{chapterD(), 5},
		{round(1, 24, 8), 24},
		{alike(1, 24, 3), 1},
		{alike(4, 24, 3), 1},
	} {
		if moments, number := mustMoments(t, x.d); number != x.number {
			t.Error(i, moments, number)
		}
	}
}
