package press_test

import (
	"math"
	"slices"
	"testing"

	"oxgall/api"
	"oxgall/press"
)

// P6.1
func TestCheckDay(t *testing.T) {
	for i, x := range []struct {
		l []api.PressSheet
		e api.Errno
	}{
		{chapterD(), api.OK},
		{day(0, 0, 0), api.OK},
		{day(1000, 1000, 1000), api.OK},
		{day(0, 1000, 0, 1000, 0, 1000), api.OK},
		{alike(8, 1000, 1000, 1000), api.OK},
		{nil, api.ErrMany},
		{alike(9, 1, 1, 1), api.ErrMany},
		{alike(5000, 1, 1, 1), api.ErrMany},
		{day(-1, 1, 1), api.ErrRange},
		{day(1, -1, 1), api.ErrRange},
		{day(1, 1, -1), api.ErrRange},
		{day(1001, 1, 1), api.ErrRange},
		{day(1, 1001, 1), api.ErrRange},
		{day(1, 1, 1001), api.ErrRange},
		{day(1, 1, 1, 1, 1, 1, 1, 1001, 1), api.ErrRange},
		{append(alike(7, 1, 1, 1), day(1, 1, -1)...), api.ErrRange},
		{day(math.MinInt64, 1, 1), api.ErrRange},
		{day(1, math.MaxInt64, 1), api.ErrRange},
		{day(math.MinInt64, math.MaxInt64, math.MinInt64), api.ErrRange},
		// of several errors the one that is named first
		{alike(9, -1, 1, 1), api.ErrMany},
		{append(alike(8, 1, 1, 1), day(1, 1, 1001)...), api.ErrMany},
	} {
		if e := press.CheckDay(x.l); e != x.e {
			t.Error(i, e, x.e)
		}
	}
}

// The error of CheckDay comes before all others, and with it zero values.
func TestInvalidDay(t *testing.T) {
	for _, x := range []struct {
		l []api.PressSheet
		e api.Errno
	}{
		{nil, api.ErrMany},
		{alike(9, 1, 1, 1), api.ErrMany},
		{day(1, 1, 1, 1, 1001, 1), api.ErrRange},
		{day(-1, 1, 1, 1, 1, 1), api.ErrRange},
	} {
		for _, n := range of(0, 1, 99, -1) {
			if l, e := press.Ends(x.l, of(n, 1)); e != x.e || len(l) > 0 {
				t.Error("Ends", l, e, x.e)
			}
			if end, e := press.End(x.l, of(n, 1)); e != x.e || end != 0 {
				t.Error("End", end, e, x.e)
			}
			if sheet, e := press.Critical(x.l, of(n, 1)); e != x.e || sheet != 0 {
				t.Error("Critical", sheet, e, x.e)
			}
			if lines, e := press.Hung(x.l, of(n, 1)); e != x.e || lines != 0 {
				t.Error("Hung", lines, e, x.e)
			}
			if minute, e := press.CheckBound(x.l, front(n)); e != x.e || minute != 0 {
				t.Error("CheckBound", minute, e, x.e)
			}
			if kind, e := press.Kind(x.l, n, 1); e != x.e || kind != 0 {
				t.Error("Kind", kind, e, x.e)
			}
			if spare, e := press.Spare(x.l, n); e != x.e || spare != 0 {
				t.Error("Spare", spare, e, x.e)
			}
		}
		if l, end, e := press.Best(x.l); e != x.e || len(l) > 0 || end != 0 {
			t.Error("Best", l, end, e, x.e)
		}
		if b, e := press.Bound(x.l); e != x.e || len(b.Sheets) > 0 || b.Front {
			t.Error("Bound", b, e, x.e)
		}
		if n, e := press.Count(x.l); e != x.e || n != 0 {
			t.Error("Count", n, e, x.e)
		}
	}
}

// The examples of the chapter.
func TestExamples(t *testing.T) {
	l := chapterD()
	if ends, e := press.Ends(l, of(1, 2, 0)); !slices.Equal(ends, minutes(15, 22, 24)) || e != api.OK {
		t.Error(ends, e)
	}
	if ends, e := press.Ends(l, of(2, 1, 0)); !slices.Equal(ends, minutes(17, 23, 25)) || e != api.OK {
		t.Error(ends, e)
	}
	if sheet, e := press.Critical(l, of(1, 2, 0)); sheet != 1 || e != api.OK {
		t.Error(sheet, e)
	}
	if lines, e := press.Hung(l, of(1, 2, 0)); lines != 2 || e != api.OK {
		t.Error(lines, e)
	}
	if best, end, e := press.Best(l); !slices.Equal(best, of(1, 2, 0)) || end != 24 || e != api.OK {
		t.Error(best, end, e)
	}
	for i, x := range []struct {
		b      api.PressBound
		minute int64
		e      api.Errno
	}{
		{front(0, 1, 2), 24, api.OK}, {back(0, 1, 2), 20, api.OK}, {front(), 0, api.ErrRange}, {back(), 0, api.ErrRange},
	} {
		if minute, e := press.CheckBound(l, x.b); minute != x.minute || e != x.e {
			t.Error(i, minute, e)
		}
	}
	if kind := mustKind(t, l, 1, 2); kind != api.PressAlways {
		t.Error(kind)
	}
	if kind := mustKind(t, l, 0, 1); kind != api.PressNever {
		t.Error(kind)
	}
	if n := mustCount(t, l); n != 1 {
		t.Error(n)
	}
	if spare := mustSpare(t, l, 0); spare != 2 {
		t.Error(spare)
	}
}

// P6.2 and P6.3: a list that is no order.
func TestNoOrder(t *testing.T) {
	l := chapterD()
	for i, order := range [][]int{
		nil, of(0), of(1, 2), of(0, 1, 2, 0), of(0, 1, 2, 3), of(0, 1, 1), of(0, 1, 3), of(-1, 0, 1), of(2, 0, 2),
		of(math.MinInt, math.MaxInt, 0), make([]int, 70000),
	} {
		if ends, e := press.Ends(l, order); e != api.ErrEqual || len(ends) > 0 {
			t.Error(i, ends, e)
		}
		if end, e := press.End(l, order); e != api.ErrEqual || end != 0 {
			t.Error(i, end, e)
		}
		if sheet, e := press.Critical(l, order); e != api.ErrEqual || sheet != 0 {
			t.Error(i, sheet, e)
		}
		if lines, e := press.Hung(l, order); e != api.ErrEqual || lines != 0 {
			t.Error(i, lines, e)
		}
	}
	// of a day on which all works are done at once, too
	if ends, e := press.Ends(alike(2, 0, 0, 0), of(0)); e != api.ErrEqual || len(ends) > 0 {
		t.Error(ends, e)
	}
}

// P6.2 and P6.3
func TestInOrder(t *testing.T) {
	for i, x := range []struct {
		l        []api.PressSheet
		order    []int
		ends     []int64
		critical int
		lines    int
	}{
		{day(0, 0, 0), of(0), minutes(0), 0, 0},
		{day(3, 0, 4), of(0), minutes(7), 0, 0},
		{day(3, 1, 4), of(0), minutes(8), 0, 1},
		{alike(3, 0, 0, 0), of(2, 0, 1), minutes(0, 0, 0), 2, 0},
		// the press is the work that takes longest: all wait for it
		{alike(3, 1, 0, 5), of(1, 2, 0), minutes(6, 11, 16), 1, 2},
		// the bath is
		{alike(3, 5, 0, 1), of(1, 2, 0), minutes(6, 11, 16), 0, 0},
		// the line is, and all sheets hang at the same time
		{alike(3, 1, 9, 1), of(0, 2, 1), minutes(11, 12, 13), 0, 3},
		// a sheet that is dry has to wait for the one before it
		{day(1, 9, 1, 1, 0, 1), of(0, 1), minutes(11, 12), 0, 2},
		{day(1, 9, 1, 1, 0, 1), of(1, 0), minutes(2, 12), 0, 1},
		// the first one of two longest rows, by the order, not by the index
		{day(2, 3, 4, 2, 3, 2), of(1, 0), minutes(7, 11), 1, 2},
		{day(4, 3, 2, 2, 3, 4), of(1, 0), minutes(9, 11), 1, 1},
		{day(2, 3, 4, 2, 3, 2), of(0, 1), minutes(9, 11), 0, 2},
		// the critical sheet is the last one, or in the middle
		{day(1, 1, 1, 1, 9, 1, 1, 1, 1), of(0, 1, 2), minutes(3, 12, 13), 1, 2},
		{day(1, 1, 1, 1, 9, 1, 1, 1, 1), of(2, 0, 1), minutes(3, 4, 13), 1, 1},
		// one sheet leaves the bath just when another one goes into the press
		{day(2, 3, 9, 3, 4, 1), of(0, 1), minutes(14, 15), 0, 1},
		{day(2, 4, 9, 3, 4, 1), of(0, 1), minutes(15, 16), 0, 2},
		// sheets that leave the bath at the same minute
		{day(2, 3, 1, 0, 3, 1, 0, 3, 1), of(0, 1, 2), minutes(6, 7, 8), 0, 3},
		{day(2, 0, 3, 0, 0, 1, 0, 0, 1), of(0, 1, 2), minutes(5, 6, 7), 0, 2},
		{alike(8, 1000, 1000, 1000), of(7, 6, 5, 4, 3, 2, 1, 0), minutes(3000, 4000, 5000, 6000, 7000, 8000, 9000, 10000), 7, 1},
		{alike(8, 0, 1000, 1000), of(0, 1, 2, 3, 4, 5, 6, 7), minutes(2000, 3000, 4000, 5000, 6000, 7000, 8000, 9000), 0, 8},
	} {
		if ends, e := press.Ends(x.l, x.order); !slices.Equal(ends, x.ends) || e != api.OK {
			t.Error(i, ends, e)
		}
		if end := mustEnd(t, x.l, x.order); end != x.ends[len(x.ends)-1] {
			t.Error(i, end)
		}
		if sheet, e := press.Critical(x.l, x.order); sheet != x.critical || e != api.OK {
			t.Error(i, sheet, e)
		}
		if lines := mustLines(t, x.l, x.order); lines != x.lines {
			t.Error(i, lines)
		}
	}
}

// P6.4 and P6.6
func TestBestAndCount(t *testing.T) {
	for i, x := range []struct {
		l     []api.PressSheet
		best  []int
		end   int64
		count int
	}{
		{day(0, 0, 0), of(0), 0, 1},
		{day(3, 4, 5), of(0), 12, 1},
		{alike(8, 0, 0, 0), of(0, 1, 2, 3, 4, 5, 6, 7), 0, 40320},
		{alike(8, 1000, 1000, 1000), of(0, 1, 2, 3, 4, 5, 6, 7), 10000, 40320},
		{alike(8, 0, 1000, 1000), of(0, 1, 2, 3, 4, 5, 6, 7), 9000, 40320},
		// the sheet with the shortest Draw first
		{day(5, 0, 9, 1, 0, 9), of(1, 0), 19, 1},
		// the one with the shortest Press last
		{day(9, 0, 1, 9, 0, 5), of(1, 0), 19, 1},
		// the one that hangs longest first
		{day(3, 1, 1, 3, 9, 1), of(1, 0), 14, 1},
		// one sheet takes longer than all the others, which only have to be on the right side of it
		{day(2, 900, 2, 1, 1, 0, 0, 3, 1, 0, 0, 0), of(2, 0, 1, 3), 904, 4},
		{day(1, 2, 1, 1, 2, 1, 0, 30, 0), of(0, 1, 2), 32, 6},
		// the lexicographically first one is not the first one of an order by Draw, Dry and Press
		{day(3, 0, 4, 1, 0, 9, 2, 0, 5), of(1, 0, 2), 19, 2},
		{day(0, 0, 1000, 1000, 0, 0, 0, 1000, 0, 1000, 1000, 1000), of(0, 2, 3, 1), 3000, 4},
	} {
		all, end := allBest(x.l)
		if best, at := mustBest(t, x.l); !slices.Equal(best, x.best) || at != x.end {
			t.Error(i, best, at, all, end)
		}
		if n := mustCount(t, x.l); n != x.count {
			t.Error(i, n, len(all))
		}
	}
}

// P6.5: the minute of a bound.
func TestCheckBound(t *testing.T) {
	l := day(3, 10, 2, 5, 4, 6, 2, 8, 7, 1, 0, 1)
	for i, x := range []struct {
		b      api.PressBound
		minute int64
		e      api.Errno
	}{
		{front(0), 2 + 13 + 5 + 2 + 1, api.OK},
		{back(0), 3 + 12 + 5 + 2 + 1, api.OK},
		{front(3), 1 + 1 + 2 + 5 + 2, api.OK},
		{back(3), 1 + 1 + 2 + 5 + 2, api.OK},
		{front(1, 2), 6 + 7 + 9 + 2 + 1, api.OK},
		{back(1, 2), 5 + 2 + 10 + 2 + 1, api.OK},
		{front(0, 1, 2, 3), 16 + 1, api.OK},
		{back(0, 1, 2, 3), 11 + 1, api.OK},
		{front(), 0, api.ErrRange},
		{front(1, 0), 0, api.ErrRange},
		{front(1, 1), 0, api.ErrRange},
		{back(0, 2, 1), 0, api.ErrRange},
		{front(0, 4), 0, api.ErrRange},
		{back(-1, 0), 0, api.ErrRange},
		{back(4), 0, api.ErrRange},
		{front(0, 1, 2, 3, 4), 0, api.ErrRange},
		{front(math.MinInt, math.MaxInt), 0, api.ErrRange},
		{front(make([]int, 70000)...), 0, api.ErrRange},
	} {
		if minute, e := press.CheckBound(l, x.b); minute != x.minute || e != x.e {
			t.Error(i, minute, e)
		}
	}
	high := alike(8, 1000, 1000, 1000)
	if minute := mustMinute(t, high, front(0, 1, 2, 3, 4, 5, 6, 7)); minute != 10000 {
		t.Error(minute)
	}
}

// P6.5: a bound that proves a best order, at the front, at the back, or of few sheets.
func TestBound(t *testing.T) {
	for i, x := range []struct {
		l     []api.PressSheet
		sides []bool // what Front can be
	}{
		{chapterD(), []bool{true, false}},
		{turned(chapterD()), []bool{true, false}},
		{day(0, 0, 0), []bool{true, false}},
		{alike(8, 7, 3, 7), []bool{true, false}},
		{alike(8, 7, 3, 9), []bool{true}},
		{alike(8, 9, 3, 7), []bool{false}},
		{day(1, 90, 2, 1, 3, 1, 3, 1, 1), []bool{true, false}},
	} {
		_, end := mustBest(t, x.l)
		b := mustBound(t, x.l)
		if minute := mustMinute(t, x.l, b); minute != end || !slices.Contains(x.sides, b.Front) {
			t.Error(i, b, minute, end)
		}
		var sides []bool
		bounds(x.l, func(b api.PressBound) {
			if minuteOf(x.l, b) == end && !slices.Contains(sides, b.Front) {
				sides = append(sides, b.Front)
			}
		})
		if !slices.Equal(sides, x.sides) {
			t.Error(i, "not the sides that are meant", sides)
		}
	}
}

// P6.6
func TestKind(t *testing.T) {
	l := day(1, 0, 9, 9, 0, 1, 3, 0, 5, 3, 0, 5)
	for i, x := range []struct {
		l        []api.PressSheet
		one, two int
		kind     int
		e        api.Errno
	}{
		{l, 0, 1, api.PressAlways, api.OK},
		{l, 1, 0, api.PressNever, api.OK},
		{l, 2, 3, api.PressMay, api.OK},
		{l, 3, 2, api.PressMay, api.OK},
		{l, 0, 3, api.PressAlways, api.OK},
		{l, 2, 1, api.PressMay, api.OK},
		{l, 1, 3, api.PressMay, api.OK},
		{alike(8, 1, 1, 1), 7, 0, api.PressMay, api.OK},
		{alike(8, 1, 1, 1), 0, 7, api.PressMay, api.OK},
		{l, 0, 0, 0, api.ErrArg},
		{l, 3, 3, 0, api.ErrArg},
		{l, 0, 4, 0, api.ErrArg},
		{l, 4, 0, 0, api.ErrArg},
		{l, -1, 0, 0, api.ErrArg},
		{l, 0, -1, 0, api.ErrArg},
		{l, 4, 4, 0, api.ErrArg},
		{l, math.MinInt, math.MaxInt, 0, api.ErrArg},
		{day(1, 1, 1), 0, 0, 0, api.ErrArg},
		{day(1, 1, 1), 0, 1, 0, api.ErrArg},
	} {
		if kind, e := press.Kind(x.l, x.one, x.two); kind != x.kind || e != x.e {
			t.Error(i, kind, e)
		}
	}
}

// P6.7
func TestSpare(t *testing.T) {
	for i, x := range []struct {
		l     []api.PressSheet
		sheet int
		spare int64
		e     api.Errno
	}{
		{chapterD(), 0, 2, api.OK},
		{chapterD(), 1, 0, api.OK},
		{chapterD(), 2, 0, api.OK},
		{day(0, 0, 0), 0, 0, api.OK},
		{day(3, 4, 5), 0, 0, api.OK},
		// of two sheets the row through the second one, or the first one, is shorter
		{alike(2, 3, 0, 3), 0, 0, api.OK},
		{alike(2, 3, 1, 4), 1, 1, api.OK},
		{alike(2, 4, 1, 3), 0, 1, api.OK},
		// one sheet hangs while another one does
		{day(0, 1000, 0, 0, 0, 0), 1, 1000, api.OK},
		{day(0, 1000, 0, 0, 1000, 0), 1, 0, api.OK},
		{day(1, 1000, 0, 2, 20, 0), 1, 978, api.OK},
		// Dry may be greater than any on a day
		{append(alike(7, 0, 0, 1000), day(0, 1000, 0)...), 7, 6000, api.OK},
		{append(alike(7, 1000, 1000, 0), day(0, 1000, 0)...), 7, 7000, api.OK},
		{chapterD(), 3, 0, api.ErrArg},
		{chapterD(), -1, 0, api.ErrArg},
		{chapterD(), math.MaxInt, 0, api.ErrArg},
		{chapterD(), math.MinInt, 0, api.ErrArg},
	} {
		if spare, e := press.Spare(x.l, x.sheet); spare != x.spare || e != x.e {
			t.Error(i, spare, e)
		}
	}
}
