package bath_test

import (
	"math"
	"slices"
	"testing"

	"oxgall/api"
	"oxgall/bath"
)

// P7.1
func TestCheckOrders(t *testing.T) {
	for i, x := range []struct {
		l []api.BathOrder
		e api.Errno
	}{
		{chapterA(), api.OK},
		{chapterB(), api.OK},
		{orders(0, 0, 0, 0, 0), api.OK},
		{alike(14, 10000, 10000, 10000, 10000, 100000), api.OK},
		{orders(0, 10000, 0, 10000, 7), api.OK},
		{nil, api.ErrMany},
		{alike(15, 0, 0, 0, 0, 0), api.ErrMany},
		{alike(5000, 0, 0, 0, 0, 0), api.ErrMany},
		{orders(-1, 0, 0, 0, 0), api.ErrRange},
		{orders(0, 10001, 0, 0, 0), api.ErrRange},
		{orders(0, 0, -1, 0, 0), api.ErrRange},
		{orders(0, 0, 0, 10001, 0), api.ErrRange},
		{orders(0, 0, 0, 0, -1), api.ErrRange},
		{orders(0, 0, 0, 0, 100001), api.ErrRange},
		{orders(1, 0, 0, 0, 0), api.ErrRange},
		{orders(0, 0, 1, 0, 0), api.ErrRange},
		{orders(10001, 10000, 0, 0, 0), api.ErrRange},
		{orders(0, -1, 0, 0, 0), api.ErrRange},
		{append(alike(13, 5, 5, 5, 5, 5), orders(5, 5, 5, 4, 5)...), api.ErrRange},
		{append(orders(5, 4, 5, 5, 5), alike(13, 5, 5, 5, 5, 5)...), api.ErrRange},
		{orders(math.MinInt64, 0, 0, 0, 0), api.ErrRange},
		{orders(0, math.MaxInt64, 0, 0, 0), api.ErrRange},
		{orders(math.MinInt64, math.MaxInt64, math.MinInt64, math.MaxInt64, math.MinInt64), api.ErrRange},
		// of several errors the one that is named first
		{alike(15, 1, 0, 0, 0, 0), api.ErrMany},
	} {
		if e := bath.CheckOrders(x.l); e != x.e {
			t.Error(i, e, x.e)
		}
	}
}

// The error of CheckOrders comes before all others, and with it zero values.
func TestInvalidOrders(t *testing.T) {
	for _, x := range []struct {
		l []api.BathOrder
		e api.Errno
	}{
		{nil, api.ErrMany},
		{alike(15, 0, 5, 0, 0, 1), api.ErrMany},
		{orders(5, 4, 0, 9, 1, 0, 0, 0, 0, 1), api.ErrRange},
		{orders(0, 5, 0, 0, 1, 0, 0, 0, 0, 100001), api.ErrRange}, // the first one has no births
	} {
		if births, e := bath.Best(x.l); e != x.e || len(births) > 0 {
			t.Error("Best", births, e, x.e)
		}
		if apart, e := bath.Apart(x.l); e != x.e || len(apart) > 0 {
			t.Error("Apart", apart, e, x.e)
		}
		if costs, e := bath.Costs(x.l); e != x.e || len(costs) > 0 {
			t.Error("Costs", costs, e, x.e)
		}
		for _, n := range of(0, 1, 15, 99, -1) {
			birth := int64(n)
			if r, e := bath.Births(x.l, n); e != x.e || r != from(0, 0) {
				t.Error("Births", r, e, x.e)
			}
			if done, e := bath.Does(x.l, birth); e != x.e || len(done) > 0 {
				t.Error("Does", done, e, x.e)
			}
			for _, births := range [][]int64{nil, at(birth), at(birth, 0), make([]int64, 15)} {
				if e := bath.CheckBaths(x.l, births); e != x.e {
					t.Error("CheckBaths", e, x.e)
				}
				if worth, e := bath.Worth(x.l, births); e != x.e || worth != 0 {
					t.Error("Worth", worth, e, x.e)
				}
			}
			if e := bath.CheckApart(x.l, of(n, 0)); e != x.e {
				t.Error("CheckApart", e, x.e)
			}
			if worth, births, e := bath.Most(x.l, n); e != x.e || worth != 0 || len(births) > 0 {
				t.Error("Most", worth, births, e, x.e)
			}
			if bound, e := bath.CheckPrices(x.l, n, -1, nil); e != x.e || bound != 0 {
				t.Error("CheckPrices", bound, e, x.e)
			}
			if number, prices, e := bath.Prices(x.l, n); e != x.e || number != 0 || len(prices) > 0 {
				t.Error("Prices", number, prices, e, x.e)
			}
		}
	}
}

// The examples of the chapter.
func TestExamples(t *testing.T) {
	a, b := chapterA(), chapterB()
	for order, births := range []api.Range{from(50, 80), from(60, 80), from(110, 150), from(80, 105)} {
		if r, e := bath.Births(a, order); r != births || e != api.OK {
			t.Error(order, r, e)
		}
	}
	if r, e := bath.Births(b, 3); r != from(0, 0) || e != api.ErrAge {
		t.Error(r, e)
	}
	if done := mustDo(t, a, 80); !slices.Equal(done, of(0, 1, 3)) {
		t.Error(done)
	}
	if done := mustDo(t, a, 81); !slices.Equal(done, of(3)) {
		t.Error(done)
	}
	if births := mustBest(t, a); !slices.Equal(births, at(80, 150)) {
		t.Error(births)
	}
	if births, e := bath.Best(b); len(births) > 0 || e != api.ErrAge {
		t.Error(births, e)
	}
	if e, f := bath.CheckBaths(a, at(80, 150)), bath.CheckBaths(a, at(80)); e != api.OK || f != api.ErrAge {
		t.Error(e, f)
	}
	if e, f := bath.CheckApart(a, of(0, 2)), bath.CheckApart(a, of(0, 3)); e != api.OK || f != api.ErrSum {
		t.Error(e, f)
	}
	if apart := mustApart(t, a); len(apart) != 2 {
		t.Error(apart)
	}
	if costs := mustCost(t, a); !slices.Equal(costs, of(2)) {
		t.Error(costs)
	}
	if worth := mustWorth(t, a, at(150)); worth != 4 {
		t.Error(worth)
	}
	for baths, most := range []int64{0, 14, 18} {
		if worth := mustMost(t, a, baths); worth != most {
			t.Error(baths, worth)
		}
	}
	if worth := mustMost(t, b, 1); worth != 8 {
		t.Error(worth)
	}
	for i, x := range []struct {
		number int64
		prices []int64
		bound  int64
		e      api.Errno
	}{
		{14, costing(5, 3, 4, 6), 14, api.OK}, {4, costing(0, 0, 4, 4), 14, api.OK}, {13, costing(5, 3, 4, 6), 0, api.ErrSum},
	} {
		if bound, e := bath.CheckPrices(a, 1, x.number, x.prices); bound != x.bound || e != x.e {
			t.Error(i, bound, e)
		}
	}
}

// P7.1
func TestBirths(t *testing.T) {
	for i, x := range []struct {
		l      []api.BathOrder
		order  int
		births api.Range
		e      api.Errno
	}{
		{orders(0, 0, 0, 0, 0), 0, from(0, 0), api.OK},
		{orders(5, 5, 2, 4, 0), 0, from(1, 3), api.OK},
		{orders(5, 7, 2, 4, 0), 0, from(3, 3), api.OK}, // just one
		{orders(5, 8, 2, 4, 0), 0, from(0, 0), api.ErrAge},
		{orders(0, 1, 0, 0, 0), 0, from(0, 0), api.ErrAge},
		{orders(0, 0, 0, 10000, 0), 0, from(-10000, 0), api.OK},
		{orders(10000, 10000, 0, 10000, 0), 0, from(0, 10000), api.OK},
		{orders(0, 0, 10000, 10000, 0), 0, from(-10000, -10000), api.OK},
		{orders(10000, 10000, 0, 0, 0), 0, from(10000, 10000), api.OK},
		{orders(0, 10000, 0, 10000, 0), 0, from(0, 0), api.OK},
		{orders(0, 10000, 1, 10000, 0), 0, from(0, 0), api.ErrAge},
		{orders(0, 10000, 10000, 10000, 0), 0, from(0, 0), api.ErrAge},
		{append(alike(13, 0, 9, 0, 0, 0), orders(5, 6, 2, 4, 0)...), 13, from(2, 3), api.OK},
		{append(alike(13, 0, 9, 0, 0, 0), orders(5, 6, 2, 4, 0)...), 12, from(0, 0), api.ErrAge},
		{chapterA(), 4, from(0, 0), api.ErrArg},
		{chapterA(), -1, from(0, 0), api.ErrArg},
		{chapterA(), math.MaxInt, from(0, 0), api.ErrArg},
		{chapterA(), math.MinInt, from(0, 0), api.ErrArg},
		{orders(0, 1, 0, 0, 0), 1, from(0, 0), api.ErrArg},
	} {
		if r, e := bath.Births(x.l, x.order); r != x.births || e != x.e {
			t.Error(i, r, e)
		}
	}
}

// P7.2
func TestDoes(t *testing.T) {
	edges := orders(0, 0, 0, 10000, 0, 10000, 10000, 0, 10000, 0, 0, 10000, 0, 9999, 0)
	for i, x := range []struct {
		l     []api.BathOrder
		birth int64
		done  []int
	}{
		{chapterA(), 49, nil},
		{chapterA(), 50, of(0)},
		{chapterA(), 60, of(0, 1)},
		{chapterA(), 105, of(3)},
		{chapterA(), 106, nil},
		{chapterA(), 110, of(2)},
		{chapterA(), 151, nil},
		{chapterB(), 80, of(0, 1)},
		{edges, -10001, nil},
		{edges, -10000, of(0)},
		{edges, 0, of(0, 1)},
		{edges, 10000, of(1)},
		{edges, 10001, nil},
		{edges, math.MaxInt64, nil},
		{edges, math.MinInt64, nil},
		{alike(14, 7, 7, 0, 7, 1), 3, of(0, 1, 2, 3, 4, 5, 6, 7, 8, 9, 10, 11, 12, 13)},
	} {
		if done := mustDo(t, x.l, x.birth); !slices.Equal(done, x.done) {
			t.Error(i, done)
		}
	}
}

// P7.3 and P7.6: births that are no baths.
func TestNoBaths(t *testing.T) {
	fifteen := at(0, 1, 2, 3, 4, 5, 6, 7, 8, 9, 10, 11, 12, 13, 14)
	for i, x := range []struct {
		births []int64
		e      api.Errno
	}{
		{fifteen, api.ErrMany},
		{make([]int64, 15), api.ErrMany},
		{make([]int64, 70000), api.ErrMany},
		{at(80, 80), api.ErrRange},
		{at(80, 60), api.ErrRange},
		{at(60, 80, 70), api.ErrRange},
		{at(-10001, 80), api.ErrRange},
		{at(80, 150, 10001), api.ErrRange},
		{at(math.MinInt64, 80, 150), api.ErrRange},
		{at(80, 150, math.MaxInt64), api.ErrRange},
		{at(10001), api.ErrRange},
	} {
		for _, l := range [][]api.BathOrder{chapterA(), chapterB()} {
			if e := bath.CheckBaths(l, x.births); e != x.e {
				t.Error(i, e)
			}
			if worth, e := bath.Worth(l, x.births); e != x.e || worth != 0 {
				t.Error(i, worth, e)
			}
		}
	}
	for _, births := range [][]int64{nil, at(-10000), at(10000), at(-10000, 80, 10000), fifteen[1:]} {
		if e := bath.CheckBaths(chapterA(), births); e != api.ErrAge {
			t.Error(births, e)
		}
		if e := bath.CheckBaths(chapterB(), append(slices.Clone(births[:min(len(births), 1)]), 10000)); e == api.OK {
			t.Error(births, e)
		}
	}
}

// P7.3 and P7.6: what baths do, and what that is worth.
func TestBaths(t *testing.T) {
	edges := orders(0, 0, 10000, 10000, 5, 10000, 10000, 0, 0, 7)
	for i, x := range []struct {
		l      []api.BathOrder
		births []int64
		worth  int64
		e      api.Errno
	}{
		{chapterA(), at(80, 110), 18, api.OK},
		{chapterA(), at(50, 60, 80, 81, 110, 150), 18, api.OK},
		{chapterA(), at(79, 80, 81, 149), 18, api.OK},
		{chapterA(), at(81, 110), 10, api.ErrAge},
		{chapterA(), at(50, 60, 105, 150), 18, api.OK},
		{chapterA(), at(50, 105, 150), 15, api.ErrAge},
		{chapterA(), at(50, 60), 8, api.ErrAge}, // one order is done twice, but worth itself once
		{chapterA(), nil, 0, api.ErrAge},
		{chapterA(), at(-10000, 10000), 0, api.ErrAge},
		{chapterB(), at(80, 110), 12, api.ErrAge},
		{edges, at(-10000, 10000), 12, api.OK},
		{edges, at(-10000), 5, api.ErrAge},
		{edges, at(10000), 7, api.ErrAge},
		{alike(14, 9, 9, 9, 9, 100000), at(0), 1400000, api.OK},
		{alike(14, 9, 9, 9, 9, 100000), at(-6, -5, -4, -3, -2, -1, 0, 1, 2, 3, 4, 5, 6, 7), 1400000, api.OK},
		{alike(1, 9, 9, 9, 9, 0), at(0), 0, api.OK},
		{alike(1, 9, 9, 9, 9, 0), nil, 0, api.ErrAge},
	} {
		if e := bath.CheckBaths(x.l, x.births); e != x.e {
			t.Error(i, e)
		}
		if worth := mustWorth(t, x.l, x.births); worth != x.worth {
			t.Error(i, worth)
		}
	}
}

// row returns n orders with two births each, none of which two have.
func row(n int) []api.BathOrder {
	var l []api.BathOrder
	for i := range int64(n) {
		l = append(l, orders(3*i+1, 3*i+1, 0, 1, i+1)...)
	}
	return l
}

// P7.3 to P7.5
func TestBest(t *testing.T) {
	fourteen := at(1, 4, 7, 10, 13, 16, 19, 22, 25, 28, 31, 34, 37, 40)
	reversed := row(14)
	slices.Reverse(reversed)
	everyOne := of(0, 1, 2, 3, 4, 5, 6, 7, 8, 9, 10, 11, 12, 13)
	for i, x := range []struct {
		l     []api.BathOrder
		best  []int64
		costs []int
	}{
		{orders(5, 5, 2, 4, 0), at(3), of(0)},
		{orders(0, 0, 10000, 10000, 0), at(-10000), of(0)},
		{orders(10000, 10000, 0, 0, 0), at(10000), of(0)},
		{alike(14, 5, 5, 2, 4, 0), at(3), nil},
		{row(14), fourteen, everyOne},
		{reversed, fourteen, everyOne},
		// births that touch, and just do not
		{born(0, 3, 1, 3, 6, 1), at(3), nil},
		{born(0, 3, 1, 4, 6, 1), at(3, 6), of(0, 1)},
		{born(3, 6, 1, 0, 3, 1, 6, 9, 1), at(3, 9), of(1, 2)},
		// the last one is as late as can be, though an earlier one does too
		{born(0, 2, 1, 1, 9, 1, 5, 8, 1), at(2, 8), of(0, 2)},
		// an order within another one
		{born(0, 9, 1, 3, 4, 1), at(4), nil},
		{born(0, 9, 1, 3, 4, 1, 6, 7, 1), at(4, 7), of(1, 2)},
		// two that are the same cost none, though they need one
		{born(0, 1, 1, 0, 1, 1, 5, 6, 1), at(1, 6), of(2)},
		// each of three is done with one of the others
		{born(0, 5, 1, 4, 9, 1, 8, 12, 1), at(5, 12), of(0, 2)},
		{born(0, 5, 1, 4, 9, 1, 8, 12, 1, 11, 14, 1), at(5, 12), nil},
	} {
		if births := mustBest(t, x.l); !slices.Equal(births, x.best) || bath.CheckBaths(x.l, births) != api.OK {
			t.Error(i, births)
		}
		if apart := mustApart(t, x.l); len(apart) != len(x.best) || bath.CheckApart(x.l, apart) != api.OK {
			t.Error(i, apart)
		}
		if costs := mustCost(t, x.l); !slices.Equal(costs, x.costs) {
			t.Error(i, costs)
		}
	}
}

// P7.3 to P7.5: an order without births, of one, of several, or of orders that are otherwise the same.
func TestNoBirths(t *testing.T) {
	for i, l := range [][]api.BathOrder{
		chapterB(), orders(0, 1, 0, 0, 9), orders(0, 10000, 10000, 10000, 0), alike(14, 5, 9, 1, 4, 2),
		append(row(13), orders(9, 10, 3, 3, 0)...), append(orders(9, 10, 3, 3, 0), row(13)...),
	} {
		if births, e := bath.Best(l); e != api.ErrAge || len(births) > 0 {
			t.Error(i, births, e)
		}
		if apart, e := bath.Apart(l); e != api.ErrAge || len(apart) > 0 {
			t.Error(i, apart, e)
		}
		if costs, e := bath.Costs(l); e != api.ErrAge || len(costs) > 0 {
			t.Error(i, costs, e)
		}
		if e := bath.CheckBaths(l, at(-5, 0, 1, 4, 7, 10, 13, 16, 19, 22, 25, 28, 31, 34)); e != api.ErrAge {
			t.Error(i, e)
		}
	}
}

// P7.4
func TestCheckApart(t *testing.T) {
	for i, x := range []struct {
		l      []api.BathOrder
		orders []int
		e      api.Errno
	}{
		{chapterA(), nil, api.OK},
		{chapterA(), of(0), api.OK},
		{chapterA(), of(2, 3), api.OK},
		{chapterA(), of(0, 1), api.ErrSum},
		{chapterA(), of(1, 2, 3), api.ErrSum}, // 1 and 3 have the birth 80
		{chapterB(), nil, api.OK},
		{chapterB(), of(1, 2), api.OK},
		{chapterB(), of(3), api.ErrAge},
		{chapterB(), of(0, 1, 3), api.ErrAge}, // before ErrSum
		{chapterA(), of(0, 0), api.ErrRange},
		{chapterA(), of(2, 0), api.ErrRange},
		{chapterA(), of(0, 4), api.ErrRange},
		{chapterA(), of(-1, 0), api.ErrRange},
		{chapterB(), of(3, 2), api.ErrRange},
		{chapterB(), of(3, 4), api.ErrRange},
		{chapterA(), of(math.MinInt, math.MaxInt), api.ErrRange},
		{chapterA(), make([]int, 70000), api.ErrRange},
		{row(14), of(0, 1, 2, 3, 4, 5, 6, 7, 8, 9, 10, 11, 12, 13), api.OK},
		{row(14), of(0, 1, 2, 3, 4, 5, 6, 7, 8, 9, 10, 11, 12, 13, 14), api.ErrRange},
		{born(0, 3, 1, 3, 6, 1), of(0, 1), api.ErrSum},
		{born(0, 3, 1, 4, 6, 1), of(0, 1), api.OK},
		{born(4, 6, 1, 0, 3, 1), of(0, 1), api.OK},
		{born(0, 9, 1, 3, 4, 1, 20, 30, 1), of(0, 1, 2), api.ErrSum},
		{alike(2, 0, 0, 0, 0, 1), of(0, 1), api.ErrSum},
	} {
		if e := bath.CheckApart(x.l, x.orders); e != x.e {
			t.Error(i, e)
		}
	}
}

// P7.6 and P7.7
func TestMostAndPrices(t *testing.T) {
	for i, x := range []struct {
		l     []api.BathOrder
		mosts []int64 // for 0 baths, 1 bath, .., as long as they are more
	}{
		{chapterA(), []int64{0, 14, 18}},
		{chapterB(), []int64{0, 8, 12}},
		{orders(5, 5, 2, 4, 0), []int64{0}},
		{orders(5, 5, 2, 4, 9), []int64{0, 9}},
		{orders(5, 8, 2, 4, 9), []int64{0}}, // no births
		{alike(14, 5, 8, 2, 4, 100000), []int64{0}},
		{alike(14, 9, 9, 9, 9, 100000), []int64{0, 1400000}},
		{row(14), []int64{0, 14, 27, 39, 50, 60, 69, 77, 84, 90, 95, 99, 102, 104, 105}},
		// the best bath is none of the best two
		{born(0, 2, 4, 2, 4, 3, 4, 6, 3, 6, 8, 4), []int64{0, 7, 14}},
		{born(0, 3, 5, 3, 4, 2, 4, 7, 5, 0, 1, 1, 6, 7, 1), []int64{0, 7, 13, 14}},
		// three baths do what two do not
		{born(0, 1, 5, 2, 3, 5, 4, 5, 5, 1, 2, 1, 3, 4, 1), []int64{0, 6, 12, 17}},
		// an order that is done by two baths is worth itself once
		{born(0, 9, 10, 0, 1, 1, 8, 9, 1), []int64{0, 11, 12}},
		// an order without births does not count, wherever it is
		{append(orders(5, 8, 2, 4, 9), born(0, 9, 10, 0, 1, 1, 8, 9, 1)...), []int64{0, 11, 12}},
		{append(born(0, 9, 10, 0, 1, 1, 8, 9, 1), orders(100, 105, 92, 95, 9)...), []int64{0, 11, 12}},
		// orders that are worth nothing
		{born(0, 1, 0, 3, 4, 6, 6, 7, 0), []int64{0, 6}},
	} {
		for baths := range api.MaxBathBaths + 1 {
			most := x.mosts[min(baths, len(x.mosts)-1)]
			if worth := mustMost(t, x.l, baths); worth != most {
				t.Error(i, baths, worth, most)
			}
			if bound := mustBound(t, x.l, baths); bound != most {
				t.Error(i, baths, bound, most)
			}
		}
	}
}

// P7.6 and P7.7: a number of baths that there cannot be.
func TestNoNumber(t *testing.T) {
	for _, l := range [][]api.BathOrder{chapterA(), chapterB()} {
		for _, n := range of(-1, 15, math.MinInt, math.MaxInt) {
			if worth, births, e := bath.Most(l, n); e != api.ErrArg || worth != 0 || len(births) > 0 {
				t.Error(n, worth, births, e)
			}
			if number, prices, e := bath.Prices(l, n); e != api.ErrArg || number != 0 || len(prices) > 0 {
				t.Error(n, number, prices, e)
			}
			if bound, e := bath.CheckPrices(l, n, -1, nil); e != api.ErrArg || bound != 0 {
				t.Error(n, bound, e)
			}
		}
	}
}

// P7.7
func TestCheckPrices(t *testing.T) {
	high := alike(14, 9, 9, 9, 9, 100000)
	for i, x := range []struct {
		l      []api.BathOrder
		baths  int
		number int64
		prices []int64
		bound  int64
		e      api.Errno
	}{
		{chapterA(), 0, 14, costing(5, 3, 4, 6), 0, api.OK},
		{chapterA(), 2, 14, costing(5, 3, 4, 6), 28, api.OK},
		{chapterA(), 14, 0, costing(0, 0, 0, 0), 18, api.OK},
		{chapterA(), 14, 2000000, costing(0, 0, 0, 0), 28000018, api.OK},
		{chapterA(), 1, 14, costing(5, 3, 0, 6), 18, api.OK},
		{chapterA(), 1, 4, costing(0, 0, 4, 4), 14, api.OK},
		{chapterA(), 1, 3, costing(0, 0, 4, 0), 0, api.ErrSum},
		{chapterA(), 1, 5, costing(0, 0, 4, 6), 0, api.ErrSum},
		{chapterA(), 1, 7, costing(5, 3, 4, 0), 0, api.ErrSum},
		{chapterA(), 1, 8, costing(5, 3, 4, 0), 14, api.OK},
		{chapterB(), 1, 8, costing(5, 3, 4, 6), 8, api.OK}, // no bath does the order 3
		{chapterB(), 2, 4, costing(1, 3, 4, 6), 12, api.OK},
		{high, 14, 1400000, slices.Repeat(costing(100000), 14), 19600000, api.OK},
		{high, 14, 1399999, slices.Repeat(costing(100000), 14), 0, api.ErrSum},
		{chapterA(), 1, 14, costing(5, 3, 4), 0, api.ErrEqual},
		{chapterA(), 1, 14, costing(5, 3, 4, 6, 0), 0, api.ErrEqual},
		{chapterA(), 1, 14, nil, 0, api.ErrEqual},
		{chapterA(), 1, 14, make([]int64, 70000), 0, api.ErrEqual},
		{chapterA(), 1, -1, costing(0, 0, 0), 0, api.ErrEqual},
		{chapterA(), 1, 14, costing(-1, 3, 4, 6, 1), 0, api.ErrEqual},
		{chapterA(), 1, -1, costing(0, 0, 0, 0), 0, api.ErrRange},
		{chapterA(), 1, 2000001, costing(0, 0, 0, 0), 0, api.ErrRange},
		{chapterA(), 1, 14, costing(-1, 0, 0, 0), 0, api.ErrRange},
		{chapterA(), 1, 14, costing(0, 0, 0, -1), 0, api.ErrRange},
		{chapterA(), 1, 14, costing(6, 0, 0, 0), 0, api.ErrRange},
		{chapterA(), 1, 14, costing(0, 0, 0, 7), 0, api.ErrRange},
		{chapterA(), 1, 0, costing(5, 3, 4, 7), 0, api.ErrRange}, // before ErrSum
		{chapterB(), 1, 14, costing(0, 0, 0, 7), 0, api.ErrRange},
		{chapterA(), 1, math.MinInt64, costing(0, 0, 0, 0), 0, api.ErrRange},
		{chapterA(), 1, math.MaxInt64, costing(0, 0, 0, 0), 0, api.ErrRange},
		{chapterA(), 1, 14, costing(math.MaxInt64, math.MaxInt64, 0, math.MinInt64), 0, api.ErrRange},
		// two births, of which each is too much for the number
		{born(0, 3, 4, 3, 6, 4, 6, 9, 4), 1, 7, costing(4, 3, 4), 8, api.OK},
		{born(0, 3, 4, 3, 6, 4, 6, 9, 4), 1, 7, costing(4, 4, 3), 0, api.ErrSum},
		{born(0, 3, 4, 3, 6, 4, 6, 9, 4), 1, 7, costing(3, 4, 4), 0, api.ErrSum},
	} {
		if bound, e := bath.CheckPrices(x.l, x.baths, x.number, x.prices); bound != x.bound || e != x.e {
			t.Error(i, bound, e)
		}
	}
}
