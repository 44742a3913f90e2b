package bath_test

import (
	"fmt"
	"math"
	"slices"
	"testing"

	"oxgall/api"
	"oxgall/bath"
)

// tell returns all that all functions say of orders, births, orders that may be apart, and prices.
func tell(l []api.BathOrder, births []int64, some []int, prices []int64) string {
	out := fmt.Sprintln(bath.CheckOrders(l), bath.CheckBaths(l, births), bath.CheckApart(l, some))
	say := func(x ...any) { out += fmt.Sprintln(x...) }
	best, e := bath.Best(l)
	say(best, e)
	apart, e := bath.Apart(l)
	say(apart, e)
	costs, e := bath.Costs(l)
	say(costs, e)
	worth, e := bath.Worth(l, births)
	say(worth, e)
	for _, birth := range births[:min(len(births), 4)] {
		done, e := bath.Does(l, birth)
		say(done, e)
	}
	for _, n := range append(slices.Clone(some[:min(len(some), 4)]), 2) {
		r, e := bath.Births(l, n)
		say(r, e)
		worth, births, e := bath.Most(l, n)
		say(worth, births, e)
		bound, e := bath.CheckPrices(l, n, 9, prices)
		say(bound, e)
		bound, e = bath.CheckPrices(l, 1, int64(n), prices)
		say(bound, e)
		number, prices, e := bath.Prices(l, n)
		say(number, prices, e)
	}
	return out
}

// R4, R9 and R10: arguments stay as they are, and equal calls return equal results.
func TestAgain(t *testing.T) {
	books(t, func(d dice, l []api.BathOrder) {
		births, some := at(d.Int64N(9)-4, d.Int64N(9)), of(0, d.IntN(5))
		_, prices := d.prices(l)
		wasL, wasBirths, wasSome, wasPrices := slices.Clone(l), slices.Clone(births), slices.Clone(some), slices.Clone(prices)
		once := tell(l, births, some, prices)
		tell(d.orders(5, true), births, some, prices)
		if again := tell(l, births, some, prices); again != once {
			t.Fatal("not the same again", l, once, again)
		}
		if !slices.Equal(l, wasL) || !slices.Equal(births, wasBirths) || !slices.Equal(some, wasSome) || !slices.Equal(prices, wasPrices) {
			t.Fatal("an argument was changed", l, births, some, prices)
		}
	})
}

// R4: nothing is written behind the end of an argument.
func TestCapacity(t *testing.T) {
	l, births, some, prices := row(5), at(1, 4, 77, 88), of(0, 1, 77), costing(1, 2, 3, 77)
	wasL, wasBirths, wasSome, wasPrices := slices.Clone(l), slices.Clone(births), slices.Clone(some), slices.Clone(prices)
	tell(l[:3], births[:2], some[:2], prices[:3])
	if !slices.Equal(l, wasL) || !slices.Equal(births, wasBirths) || !slices.Equal(some, wasSome) || !slices.Equal(prices, wasPrices) {
		t.Error("an argument was changed", l, births, some, prices)
	}
}

// R4: what a caller writes into a result, or an argument, changes no other result.
func TestMemory(t *testing.T) {
	l, births, some, prices := chapterA(), at(80, 150), of(0, 2), costing(5, 3, 4, 6)
	want := tell(chapterA(), at(80, 150), of(0, 2), costing(5, 3, 4, 6))
	done, _ := bath.Does(l, 80)
	best, _ := bath.Best(l)
	apart, _ := bath.Apart(l)
	costs, _ := bath.Costs(l)
	_, most, _ := bath.Most(l, 2)
	_, right, _ := bath.Prices(l, 1)
	done[0], best[0], apart[0], costs[0], most[0], right[0] = 7, 7, 7, 7, 7, 7
	if again := tell(l, births, some, prices); again != want {
		t.Error(again, want)
	}
	best, _ = bath.Best(l)
	_, most, _ = bath.Most(l, 2)
	wasMost := slices.Clone(most)
	l[0], births[0], some[0], prices[0] = api.BathOrder{}, 7, 7, 7
	if !slices.Equal(best, at(80, 150)) || !slices.Equal(most, wasMost) {
		t.Error(best, most)
	}
}

// R3: an empty list is as a nil one.
func TestEmpty(t *testing.T) {
	for _, l := range [][]api.BathOrder{chapterA(), chapterB(), alike(2, 0, 0, 0, 0, 0), nil} {
		other := l
		if len(l) == 0 {
			other = []api.BathOrder{}
		}
		if tell(l, nil, nil, nil) != tell(other, []int64{}, []int{}, []int64{}) {
			t.Error("nil and empty differ", l)
		}
	}
}

// P1 and R5: every function ends, whatever its arguments are.
func TestAnyNumber(t *testing.T) {
	ends := []int64{
		math.MinInt64, math.MinInt64 + 1, -10001, -10000, -1, 0, 1, 2, 13, 14, 15, 10000, 10001, 100000, 2000000, math.MaxInt64 - 1, math.MaxInt64,
	}
	for _, one := range ends {
		for _, two := range ends {
			some := of(int(one), int(two))
			for _, n := range ends {
				tell(orders(one, two, n, 10000, 1), at(one, two), some, costing(n))
				tell(orders(0, n, one, two, n, 0, 0, 0, 0, 1), at(one, n, two), some, costing(one, two))
			}
			tell(row(14), at(one, two), some, slices.Repeat(costing(one), 14))
			tell(chapterB(), at(one), of(int(two)), costing(0, one, two, 0))
		}
	}
	many := make([]int, 70000)
	for _, l := range [][]api.BathOrder{row(14), chapterB(), alike(14, 10000, 10000, 0, 10000, 100000), alike(14, 0, 10000, 0, 0, 100000)} {
		tell(l, make([]int64, 70000), many, make([]int64, 70000))
		tell(l, at(-10000, 0, 10000), of(0, 13, 14), make([]int64, 14))
	}
	tell(make([]api.BathOrder, 70000), at(0), of(0), costing(0))
}
