package comb_test

import (
	"math"
	"slices"
	"testing"

	"oxgall/api"
	"oxgall/comb"
)

// P3.1
func TestCheckSheet(t *testing.T) {
	good, mark := kinds(10, 3), spans(5, 6)
	for i, x := range []struct {
		combs []api.CombKind
		marks []api.Range
		e     api.Errno
	}{
		{chapterS().Combs, chapterS().Marks, api.OK},
		{good, mark, api.OK},
		{kinds(1, 2, 50, 20), spans(0, 0, 1, 4, 500, 500), api.OK},
		{slices.Repeat(good, 8), lone(12, 3), api.OK},
		{good, spans(497, 500), api.OK},
		{good, spans(0, 3, 4, 7), api.OK},
		{nil, mark, api.ErrMany},
		{good, nil, api.ErrMany},
		{slices.Repeat(good, 9), mark, api.ErrMany},
		{good, lone(13, 0), api.ErrMany},
		{kinds(0, 3), mark, api.ErrArg},
		{kinds(51, 3), mark, api.ErrArg},
		{kinds(-1, 3), mark, api.ErrArg},
		{kinds(10, 1), mark, api.ErrArg},
		{kinds(10, 21), mark, api.ErrArg},
		{kinds(10, -2), mark, api.ErrArg},
		{kinds(10, 3, 10, 3, 10, 0), mark, api.ErrArg},
		{kinds(math.MinInt64, 3), mark, api.ErrArg},
		{kinds(math.MaxInt64, math.MaxInt64), mark, api.ErrArg},
		{good, spans(6, 5), api.ErrRange},
		{good, spans(-1, 1), api.ErrRange},
		{good, spans(499, 501), api.ErrRange},
		{good, spans(501, 501), api.ErrRange},
		{good, spans(5, 9), api.ErrRange},
		{good, spans(5, 6, 6, 7), api.ErrRange},
		{good, spans(5, 6, 5, 6), api.ErrRange},
		{good, spans(15, 16, 5, 6), api.ErrRange},
		{good, spans(5, 6, 15, 16, 17, 21), api.ErrRange},
		{good, spans(math.MinInt64, math.MaxInt64), api.ErrRange},
		{good, spans(math.MaxInt64, math.MinInt64), api.ErrRange},
		{good, spans(3, math.MinInt64), api.ErrRange},
		// of several errors the one that is named first
		{slices.Repeat(kinds(0, 0), 9), spans(6, 5), api.ErrMany},
		{kinds(0, 0), lone(13, 9), api.ErrMany},
		{kinds(0, 0), spans(6, 5), api.ErrArg},
		{kinds(10, 3, 10, 1), spans(6, 5), api.ErrArg},
	} {
		if e := comb.CheckSheet(api.CombSheet{Combs: x.combs, Marks: x.marks}); e != x.e {
			t.Error(i, e, x.e)
		}
	}
}

// The error of CheckSheet comes before all others, and with it zero values.
func TestInvalidSheet(t *testing.T) {
	good, mark := kinds(10, 3), spans(5, 6)
	for _, x := range []struct {
		s api.CombSheet
		e api.Errno
	}{
		{api.CombSheet{Marks: mark}, api.ErrMany},
		{api.CombSheet{Combs: good}, api.ErrMany},
		{api.CombSheet{Combs: kinds(0, 3), Marks: mark}, api.ErrArg},
		{api.CombSheet{Combs: good, Marks: spans(6, 5)}, api.ErrRange},
	} {
		for _, row := range ats(0, 5, 9, 5, -1, 5) {
			if l, e := comb.Has(x.s, row); e != x.e || len(l) > 0 {
				t.Error("Has", l, e, x.e)
			}
			if l, e := comb.Places(x.s, row.Comb); e != x.e || len(l) > 0 {
				t.Error("Places", l, e, x.e)
			}
			if e := comb.CheckRows(x.s, slices.Repeat([]api.CombRow{row}, 21)); e != x.e {
				t.Error("CheckRows", e, x.e)
			}
			if e := comb.CheckApart(x.s, of(row.Comb, row.Comb)); e != x.e {
				t.Error("CheckApart", e, x.e)
			}
			if k, e := comb.Kind(x.s, row); e != x.e || k != 0 {
				t.Error("Kind", k, e, x.e)
			}
		}
		if l, e := comb.Lost(x.s); e != x.e || len(l) > 0 {
			t.Error("Lost", l, e, x.e)
		}
		if l, e := comb.Best(x.s); e != x.e || len(l) > 0 {
			t.Error("Best", l, e, x.e)
		}
		if l, e := comb.Apart(x.s); e != x.e || len(l) > 0 {
			t.Error("Apart", l, e, x.e)
		}
		if n, e := comb.Count(x.s); e != x.e || n != 0 {
			t.Error("Count", n, e, x.e)
		}
	}
}

// P3.2
func TestHas(t *testing.T) {
	// teeth of one row can be in one mark
	fine := api.CombSheet{Combs: kinds(1, 2, 1, 4, 2, 3, 1, 5), Marks: spans(0, 3, 4, 4, 6, 6)}
	full := api.CombSheet{Combs: kinds(1, 20), Marks: spans(481, 481, 482, 484, 485, 488, 489, 492, 493, 496, 497, 500)}
	for i, x := range []struct {
		s   api.CombSheet
		row api.CombRow
		had []int
		e   api.Errno
	}{
		{chapterS(), at(0, 5), of(0, 1, 3), api.OK},
		{chapterS(), at(1, 21), of(2, 4), api.OK},
		{chapterS(), at(0, 6), nil, api.ErrTooth},
		{chapterS(), at(0, 15), of(1, 3, 4), api.OK},
		{chapterS(), at(1, 5), of(0, 2), api.OK},
		{chapterS(), at(1, 19), nil, api.ErrTooth}, // its first tooth is not in a mark
		{chapterS(), at(1, 25), nil, api.ErrTooth}, // its last one is not
		{chapterS(), at(0, 25), nil, api.ErrTooth},
		{chapterS(), at(2, 5), nil, api.ErrArg},
		{chapterS(), at(-1, 5), nil, api.ErrArg},
		{chapterS(), at(math.MaxInt, 5), nil, api.ErrArg},
		{chapterS(), at(math.MinInt, math.MinInt64), nil, api.ErrArg},
		{chapterS(), at(0, math.MaxInt64), nil, api.ErrTooth},
		{chapterS(), at(0, math.MinInt64), nil, api.ErrTooth},
		{chapterS(), at(0, -5), nil, api.ErrTooth},
		{fine, at(0, 0), of(0), api.OK},
		{fine, at(0, 3), of(0, 1), api.OK},
		{fine, at(0, 4), nil, api.ErrTooth},
		{fine, at(1, 0), of(0), api.OK},
		{fine, at(1, 1), of(0, 1), api.OK},
		{fine, at(2, 0), of(0, 1), api.OK},
		{fine, at(2, 2), of(0, 1, 2), api.OK},
		{fine, at(3, 0), of(0, 1), api.OK},
		{full, at(0, 481), of(0, 1, 2, 3, 4, 5), api.OK},
		{full, at(0, 482), nil, api.ErrTooth},
	} {
		if l, e := comb.Has(x.s, x.row); !slices.Equal(l, x.had) || e != x.e {
			t.Error(i, l, e)
		}
	}
}

// P3.3 and P3.4
func TestPlacesAndLost(t *testing.T) {
	fine := api.CombSheet{Combs: kinds(1, 2, 3, 2, 1, 2), Marks: spans(0, 3, 5, 5, 10, 10, 11, 13)}
	wide := api.CombSheet{Combs: kinds(50, 11, 50, 12)}
	for i := range int64(11) {
		wide.Marks = append(wide.Marks, span(50*i, 50*i))
	}
	for i, x := range []struct {
		s      api.CombSheet
		places [][]int64
		lost   []int
	}{
		{chapterS(), [][]int64{{5, 15}, {5, 6, 20, 21, 22}}, nil},
		{chapterT(), [][]int64{{5, 15}}, of(2)},
		{fine, [][]int64{{0, 1, 2, 10, 11, 12}, {0, 2, 10}, {0, 1, 2, 10, 11, 12}}, nil},
		{wide, [][]int64{{0}, nil}, nil},
		{api.CombSheet{Combs: kinds(10, 2), Marks: spans(3, 3)}, [][]int64{nil}, of(0)},
		{api.CombSheet{Combs: kinds(10, 2), Marks: spans(3, 3, 14, 15, 24, 24, 30, 33)}, [][]int64{{14}}, of(0, 3)},
	} {
		for c, places := range x.places {
			if l, e := comb.Places(x.s, c); !slices.Equal(l, places) || e != api.OK {
				t.Error(i, c, l, e)
			}
		}
		for _, c := range of(-1, len(x.s.Combs), math.MaxInt, math.MinInt) {
			if l, e := comb.Places(x.s, c); len(l) > 0 || e != api.ErrArg {
				t.Error(i, c, l, e)
			}
		}
		if l, e := comb.Lost(x.s); !slices.Equal(l, x.lost) || e != api.OK {
			t.Error(i, l, e)
		}
	}
}

// P3.5
func TestCheckRows(t *testing.T) {
	many := crowd(8, 1, 3) // 24 rows fit
	for i, x := range []struct {
		s    api.CombSheet
		rows []api.CombRow
		e    api.Errno
	}{
		{chapterS(), ats(0, 5, 1, 20), api.OK},
		{chapterS(), ats(1, 20, 0, 5), api.OK},
		{chapterS(), ats(0, 5, 1, 22, 0, 15), api.OK},
		{chapterS(), ats(0, 15, 1, 5), api.OK},
		{chapterS(), ats(0, 5, 0, 15), api.ErrRule},
		{chapterS(), nil, api.ErrRule},
		{chapterS(), ats(0, 5, 0, 6, 1, 20), api.ErrTooth},
		{chapterS(), ats(0, 5, 2, 20), api.ErrArg},
		{chapterS(), ats(0, 5, -1, 20), api.ErrArg},
		{chapterS(), ats(0, 5, 1, 20, 0, 5), api.ErrEqual},
		{chapterS(), ats(1, 5, 0, 15, 1, 6), api.OK},
		{many, ats(0, 0, 1, 0, 0, 1), api.OK},
		{many, allRows(many)[:20], api.OK},
		{many, allRows(many)[:21], api.ErrMany},
		// of several errors the one that is named first
		{chapterS(), slices.Repeat(ats(7, 7), 21), api.ErrMany},
		{chapterS(), ats(0, 6, 2, 20), api.ErrArg},
		{chapterS(), ats(0, 5, 0, 5, 0, 6), api.ErrTooth},
		{chapterS(), ats(0, 5, 0, 5), api.ErrEqual},
		{chapterS(), ats(0, math.MaxInt64, 1, math.MinInt64), api.ErrTooth},
		{chapterT(), ats(0, 5, 0, 15), api.ErrRule},
	} {
		if e := comb.CheckRows(x.s, x.rows); e != x.e {
			t.Error(i, e, x.e)
		}
	}
}

// star is a sheet with a comb for the first mark and each other one: no two
// marks are as far from each other as another two.
func star() api.CombSheet {
	s := api.CombSheet{Marks: spans(0, 0, 1, 1, 5, 5, 12, 12, 25, 25, 27, 27, 35, 35, 41, 41, 44, 44)}
	for i := len(s.Marks) - 1; i > 0; i-- {
		s.Combs = append(s.Combs, api.CombKind{Space: s.Marks[i].Lo, Teeth: 2})
	}
	return s
}

// P3.5, P3.6 and P3.8
func TestBestApartAndCount(t *testing.T) {
	for i, x := range []struct {
		s     api.CombSheet
		best  int
		apart []int
		count int64
		e, f  api.Errno
	}{
		{chapterS(), 2, of(0, 4), 5, api.OK, api.OK},
		{chapterT(), 0, of(0, 2, 4), 0, api.ErrTooth, api.ErrTooth},
		{triangle(), 2, of(0), 3, api.OK, api.OK},
		{crowd(1, 1, 1), 1, of(0), 1, api.OK, api.OK},
		{crowd(1, 1, 0), 0, of(0), 0, api.ErrTooth, api.ErrTooth},
		{crowd(3, 2, 3), 2, of(0, 1), 81, api.OK, api.OK},
		{crowd(8, 10, 2), 10, of(0, 1, 2, 3, 4, 5, 6, 7, 8, 9), 1 << 40, api.OK, api.OK},
		{crowd(8, 11, 2), 11, of(0, 1, 2, 3, 4, 5, 6, 7, 8, 9, 10), 0, api.OK, api.ErrOver},
		{crowd(8, 12, 3), 12, of(0, 1, 2, 3, 4, 5, 6, 7, 8, 9, 10, 11), 0, api.OK, api.ErrOver},
		// one row for all marks, although there are others
		{api.CombSheet{Combs: kinds(10, 2, 10, 12), Marks: lone(12, 0)}, 1, of(0), 1, api.OK, api.OK},
		{api.CombSheet{Combs: kinds(10, 2), Marks: lone(12, 0)}, 6, of(0, 2, 4, 6, 8, 10), 1, api.OK, api.OK},
		{api.CombSheet{Combs: kinds(10, 2), Marks: lone(11, 0)}, 6, of(0, 2, 4, 6, 8, 10), 5, api.OK, api.OK},
		// many sets of marks are had by the same rows and one more
		{star(), 8, of(1, 2, 3, 4, 5, 6, 7, 8), 1, api.OK, api.OK},
		// equal combs are two
		{api.CombSheet{Combs: kinds(10, 2, 10, 2), Marks: lone(2, 0)}, 1, of(0), 2, api.OK, api.OK},
		{api.CombSheet{Combs: kinds(10, 2, 10, 2), Marks: lone(4, 0)}, 2, of(0, 2), 4, api.OK, api.OK},
	} {
		rows, e := comb.Best(x.s)
		if len(rows) != x.best || e != x.e {
			t.Error(i, rows, e)
		}
		if e == api.OK && comb.CheckRows(x.s, rows) != api.OK {
			t.Error(i, rows)
		}
		if n, e := comb.Count(x.s); n != x.count || e != x.f {
			t.Error(i, n, e)
		}
		l, e := comb.Apart(x.s)
		if f := comb.CheckApart(x.s, l); !slices.Equal(l, x.apart) || e != api.OK || f != api.OK {
			t.Error(i, l, e, f)
		}
	}
}

// P3.5: rows come by their Combs first, and then by their Ats.
func TestBestIsSorted(t *testing.T) {
	s := api.CombSheet{Combs: kinds(7, 2, 5, 2), Marks: spans(0, 0, 5, 5, 20, 20, 27, 27, 100, 100, 105, 105)}
	if rows := mustBest(t, s); !slices.Equal(rows, ats(0, 20, 1, 0, 1, 100)) {
		t.Error(rows)
	}
}

// P3.6
func TestCheckApart(t *testing.T) {
	for i, x := range []struct {
		s     api.CombSheet
		marks []int
		e     api.Errno
	}{
		{chapterS(), of(1, 2), api.OK},
		{chapterS(), of(0, 2), api.ErrSum},
		{chapterS(), of(0, 4), api.OK},
		{chapterS(), of(2), api.OK},
		{chapterS(), nil, api.OK},
		{chapterS(), of(0, 1, 4), api.ErrSum},
		{chapterT(), of(0, 2, 4), api.OK}, // a mark that is lost is apart from all
		{chapterT(), of(2, 3, 4), api.ErrSum},
		{triangle(), of(0, 1), api.ErrSum},
		{triangle(), of(0, 2), api.ErrSum},
		{chapterS(), of(2, 1), api.ErrRange},
		{chapterS(), of(1, 1), api.ErrRange},
		{chapterS(), of(-1, 1), api.ErrRange},
		{chapterS(), of(1, 5), api.ErrRange},
		{chapterS(), of(0, 2, 5), api.ErrRange}, // before ErrSum
		{chapterS(), of(math.MaxInt), api.ErrRange},
		{chapterS(), of(math.MinInt), api.ErrRange},
		{chapterS(), make([]int, 5000), api.ErrRange},
		{crowd(1, 12, 3), of(0, 1, 2, 3, 4, 5, 6, 7, 8, 9, 10, 11), api.OK},
		{crowd(1, 11, 3), of(0, 1, 2, 3, 4, 5, 6, 7, 8, 9, 10, 11), api.ErrRange},
	} {
		if e := comb.CheckApart(x.s, x.marks); e != x.e {
			t.Error(i, e, x.e)
		}
	}
}

// P3.7
func TestKind(t *testing.T) {
	pair := api.CombSheet{Combs: kinds(10, 2, 3, 2), Marks: spans(0, 0, 10, 10, 13, 13)}
	for i, x := range []struct {
		s    api.CombSheet
		row  api.CombRow
		kind int
		e    api.Errno
	}{
		{chapterS(), at(0, 5), api.CombMay, api.OK},
		{chapterS(), at(0, 7), api.CombNever, api.OK},
		{chapterS(), at(0, math.MaxInt64), api.CombNever, api.OK},
		{chapterS(), at(1, 5), api.CombMay, api.OK},
		{chapterS(), at(2, 5), 0, api.ErrArg},
		{chapterS(), at(-1, 5), 0, api.ErrArg},
		{chapterT(), at(0, 5), 0, api.ErrTooth},
		{chapterT(), at(0, 7), 0, api.ErrTooth},
		{chapterT(), at(1, 5), 0, api.ErrArg}, // before ErrTooth
		{pair, at(0, 0), api.CombAlways, api.OK},
		{pair, at(1, 10), api.CombAlways, api.OK},
		{triangle(), at(1, 0), api.CombMay, api.OK},
		// it is needed, but for another row with the same marks
		{crowd(1, 1, 1), at(0, 0), api.CombAlways, api.OK},
		{crowd(2, 1, 1), at(0, 0), api.CombMay, api.OK},
		{crowd(1, 1, 2), at(0, 1), api.CombMay, api.OK},
		// it fits, but no best rows have it; without the long row there are others
		{api.CombSheet{Combs: kinds(10, 2, 10, 12), Marks: lone(12, 0)}, at(0, 20), api.CombNever, api.OK},
		{api.CombSheet{Combs: kinds(10, 2, 10, 12), Marks: lone(12, 0)}, at(1, 0), api.CombAlways, api.OK},
		{api.CombSheet{Combs: kinds(10, 2), Marks: lone(12, 0)}, at(0, 20), api.CombAlways, api.OK},
		{api.CombSheet{Combs: kinds(10, 2), Marks: lone(12, 0)}, at(0, 30), api.CombNever, api.OK},
		// kinds are known also where best rows are too many to be counted
		{crowd(8, 12, 3), at(7, 112), api.CombMay, api.OK},
	} {
		if k, e := comb.Kind(x.s, x.row); k != x.kind || e != x.e {
			t.Error(i, k, e)
		}
	}
}

// P3.9
func TestMeet(t *testing.T) {
	for i, x := range []struct {
		one, two, at, other int64
		n, far              int64
		e                   api.Errno
	}{
		{10, 15, 5, 0, 15, 30, api.OK},
		{15, 10, 0, 5, 15, 30, api.OK},
		{10, 15, 0, 7, 0, 0, api.ErrNone},
		{1, 1, 0, 500, 500, 1, api.OK},
		{1, 50, 500, 0, 500, 50, api.OK},
		{50, 49, 0, 0, 0, 2450, api.OK},
		{50, 49, 500, 499, 2900, 2450, api.OK},
		{50, 49, 499, 500, 549, 2450, api.OK},
		{50, 49, 1, 0, 2401, 2450, api.OK},
		{50, 50, 500, 0, 500, 50, api.OK},
		{50, 50, 499, 0, 0, 0, api.ErrNone},
		{4, 6, 3, 1, 7, 12, api.OK},
		{6, 3, 2, 5, 8, 6, api.OK},
		{0, 1, 0, 0, 0, 0, api.ErrArg},
		{1, 0, 0, 0, 0, 0, api.ErrArg},
		{51, 1, 0, 0, 0, 0, api.ErrArg},
		{1, 51, 0, 0, 0, 0, api.ErrArg},
		{-10, 15, 5, 0, 0, 0, api.ErrArg},
		{10, 15, -1, 0, 0, 0, api.ErrArg},
		{10, 15, 0, -1, 0, 0, api.ErrArg},
		{10, 15, 501, 0, 0, 0, api.ErrArg},
		{10, 15, 0, 501, 0, 0, api.ErrArg},
		{10, 10, 501, 0, 0, 0, api.ErrArg}, // before ErrNone
		{math.MaxInt64, math.MinInt64, 0, 0, 0, 0, api.ErrArg},
		{1, 1, math.MaxInt64, math.MinInt64, 0, 0, api.ErrArg},
	} {
		if n, far, e := comb.Meet(x.one, x.two, x.at, x.other); n != x.n || far != x.far || e != x.e {
			t.Error(i, n, far, e)
		}
	}
}

// P3.10
func TestSpaces(t *testing.T) {
	space := func(n, lo, hi int64) api.CombSpace { return api.CombSpace{Space: n, At: span(lo, hi)} }
	list := func(l ...api.CombSpace) []api.CombSpace { return l }
	even := func(n int, far int64) []api.Range {
		var out []api.Range
		for i := range int64(n) {
			out = append(out, span(far*i, far*i))
		}
		return out
	}
	for i, x := range []struct {
		marks  []api.Range
		spaces []api.CombSpace
		e      api.Errno
	}{
		{spans(5, 6, 15, 15, 25, 26), list(space(10, 5, 5)), api.OK},
		{spans(0, 3, 10, 13), list(space(7, 3, 3), space(8, 2, 3), space(9, 1, 3), space(10, 0, 3), space(11, 0, 2), space(12, 0, 1), space(13, 0, 0)), api.OK},
		{spans(0, 0, 1, 1), list(space(1, 0, 0)), api.OK},
		{spans(450, 450, 500, 500), list(space(50, 450, 450)), api.OK},
		{spans(449, 449, 500, 500), nil, api.OK},
		{spans(447, 449, 499, 500), list(space(50, 449, 449)), api.OK},
		{spans(0, 0, 10, 10, 21, 21), nil, api.OK},
		{spans(0, 1, 10, 11, 21, 21), list(space(10, 1, 1)), api.OK},
		{even(12, 45), list(space(45, 0, 0)), api.OK},
		{even(11, 50), list(space(50, 0, 0)), api.OK},
		{nil, nil, api.ErrMany},
		{spans(0, 0), nil, api.ErrMany},
		{even(13, 5), nil, api.ErrMany},
		{spans(1, 0), nil, api.ErrMany}, // before ErrRange
		{spans(1, 0, 5, 5), nil, api.ErrRange},
		{spans(0, 4, 10, 10), nil, api.ErrRange},
		{spans(0, 3, 3, 3), nil, api.ErrRange},
		{spans(10, 10, 5, 5), nil, api.ErrRange},
		{spans(0, 0, 501, 501), nil, api.ErrRange},
		{spans(-1, 0, 5, 5), nil, api.ErrRange},
		{spans(math.MinInt64, math.MaxInt64, 0, 1), nil, api.ErrRange},
	} {
		if l, e := comb.Spaces(x.marks); !slices.Equal(l, x.spaces) || e != x.e {
			t.Error(i, l, e)
		}
	}
}
