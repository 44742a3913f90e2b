package bath_test

import (
	"slices"
	"testing"

	"oxgall/api"
	"oxgall/bath"
)

// P7.1, P7.2 and P7.8: what a bath does, and births, are what looking at each minute shows.
func TestByMinutes(t *testing.T) {
	none := 0
	look := func(l []api.BathOrder) {
		last := lastTime(l)
		for birth := -last - 1; birth <= last+1; birth++ {
			if done := mustDo(t, l, birth); !slices.Equal(done, listed(bits(l, birth))) {
				t.Fatal(l, birth, done)
			}
		}
		for i, o := range l {
			births := birthsOf(o)
			r, e := bath.Births(l, i)
			if len(births) == 0 {
				if r != from(0, 0) || e != api.ErrAge {
					t.Fatal(l, i, r, e)
				}
				none++
				continue
			}
			if r != from(births[0], births[len(births)-1]) || int64(len(births)) != r.Hi-r.Lo+1 || e != api.OK {
				t.Fatal(l, i, r, e, births)
			}
		}
	}
	books(t, func(_ dice, l []api.BathOrder) { look(l) })
	tiny(1, 4, []int64{1}, look)
	tiny(2, 2, []int64{1}, look)
	tiny(3, 1, []int64{1}, look)
	if none == 0 {
		t.Error("all orders have births")
	}
}

// P7.3, P7.6, P7.9 and P7.11: all baths, and the fewest ones that do all orders.
func TestByAllBaths(t *testing.T) {
	look := func(l []api.BathOrder, most int) {
		var fewest [][]int64
		baths(l, most, func(births []int64) {
			done := bits(l, births...)
			if worth := mustWorth(t, l, births); worth != worthOf(l, done) {
				t.Fatal(l, births, worth)
			}
			e := bath.CheckBaths(l, births)
			if done != 1<<len(l)-1 {
				if e != api.ErrAge {
					t.Fatal(l, births, e)
				}
				return
			}
			if e != api.OK {
				t.Fatal(l, births, e)
			}
			if len(fewest) > 0 && len(births) < len(fewest[0]) {
				fewest = nil
			}
			if len(fewest) == 0 || len(births) == len(fewest[0]) {
				fewest = append(fewest, births)
			}
		})
		best, e := bath.Best(l)
		if (e == api.OK) != isWhole(l) || e == api.ErrAge && (len(best) > 0 || len(fewest) > 0) {
			t.Fatal(l, best, e, fewest)
		}
		if e != api.OK {
			return
		}
		latest := make([]int64, len(best))
		copy(latest, best)
		isBest := false
		for _, births := range fewest {
			if len(births) != len(best) {
				t.Fatal(l, best, births)
			}
			for i, birth := range births {
				latest[i] = max(latest[i], birth)
			}
			isBest = isBest || slices.Equal(births, best)
		}
		if !isBest || !slices.Equal(latest, best) {
			t.Fatal(l, best, latest)
		}
	}
	books(t, func(_ dice, l []api.BathOrder) {
		if lastTime(l) < 8 {
			look(l, min(len(l), 4))
		}
	})
	tiny(2, 2, []int64{0, 2}, func(l []api.BathOrder) { look(l, 3) })
	tiny(3, 1, []int64{0, 2}, func(l []api.BathOrder) { look(l, 3) })
}

// P7.4 and P7.9: which orders are apart, and as many of them as there are fewest baths.
func TestApartByAll(t *testing.T) {
	look := func(l []api.BathOrder) {
		fewest := fewestOf(l)
		for some := range 1 << len(l) {
			orders := listed(some)
			want := api.OK
			for _, order := range orders {
				if len(birthsOf(l[order])) == 0 {
					want = api.ErrAge
				}
			}
			if want == api.OK && !areApart(l, orders) {
				want = api.ErrSum
			}
			if e := bath.CheckApart(l, orders); e != want {
				t.Fatal(l, orders, e, want)
			}
			if want == api.OK && fewest >= 0 && len(orders) > fewest {
				t.Fatal(l, orders, fewest)
			}
		}
		apart, e := bath.Apart(l)
		if !isWhole(l) {
			if e != api.ErrAge || len(apart) > 0 {
				t.Fatal(l, apart, e)
			}
			return
		}
		if e != api.OK || len(apart) != fewest || len(mustBest(t, l)) != fewest || bath.CheckApart(l, apart) != api.OK {
			t.Fatal(l, apart, e, fewest)
		}
	}
	books(t, func(_ dice, l []api.BathOrder) { look(l) })
	tiny(2, 2, []int64{1}, look)
	tiny(3, 1, []int64{1}, look)
}

// P7.5: orders cost a bath if all others are done by fewer.
func TestCostsByAll(t *testing.T) {
	some, others := 0, 0
	look := func(l []api.BathOrder) {
		costs, e := bath.Costs(l)
		if !isWhole(l) {
			if e != api.ErrAge || len(costs) > 0 {
				t.Fatal(l, costs, e)
			}
			return
		}
		if e != api.OK || !slices.IsSorted(costs) {
			t.Fatal(l, costs, e)
		}
		fewest := fewestOf(l)
		for order := range l {
			less := 0
			if len(l) > 1 {
				less = fewestOf(without(l, order))
			}
			if slices.Contains(costs, order) != (less < fewest) {
				t.Fatal(l, order, costs, less, fewest)
			}
		}
		some += len(costs)
		others += len(l) - len(costs)
	}
	books(t, func(_ dice, l []api.BathOrder) { look(l) })
	tiny(2, 2, []int64{1}, look)
	tiny(3, 1, []int64{1}, look)
	if some == 0 || others == 0 {
		t.Error("all orders cost a bath, or none does")
	}
}

// P7.6, P7.7 and P7.10: the most that baths are worth, by all sets of orders that they can do, and prices that prove it.
func TestMostByAll(t *testing.T) {
	look := func(l []api.BathOrder) {
		mosts := mostsOf(l, len(l)+1)
		for baths, most := range mosts {
			if worth := mustMost(t, l, baths); worth != most {
				t.Fatal(l, baths, worth, most)
			}
			number, prices, e := bath.Prices(l, baths)
			if e != api.OK || len(prices) != len(l) || !areRight(l, number, prices) || boundOf(l, baths, number, prices) != most {
				t.Fatal(l, baths, number, prices, e, most)
			}
			if bound := mustBound(t, l, baths); bound != most {
				t.Fatal(l, baths, bound, most)
			}
			if baths > 1 && most-mosts[baths-1] > mosts[baths-1]-mosts[baths-2] {
				t.Fatal(l, baths, mosts)
			}
		}
	}
	books(t, func(_ dice, l []api.BathOrder) { look(l) })
	tiny(2, 2, []int64{0, 2, 3}, look)
	tiny(3, 1, []int64{1, 2}, look)
}

// P7.7 and P7.10: the bound of prices, birth by birth, is not less than what any baths are worth.
func TestPricesByAll(t *testing.T) {
	right, wrong := 0, 0
	look := func(l []api.BathOrder, number int64, prices []int64) {
		mosts := mostsOf(l, len(l))
		for baths, most := range mosts {
			bound, e := bath.CheckPrices(l, baths, number, prices)
			if !areRight(l, number, prices) {
				if bound != 0 || e != api.ErrSum {
					t.Fatal(l, baths, number, prices, bound, e)
				}
				wrong++
				continue
			}
			if bound != boundOf(l, baths, number, prices) || bound < most || e != api.OK {
				t.Fatal(l, baths, number, prices, bound, e)
			}
			right++
		}
	}
	books(t, func(d dice, l []api.BathOrder) {
		for range 5 {
			number, prices := d.prices(l)
			look(l, number, prices)
		}
	})
	tiny(2, 1, []int64{0, 2}, func(l []api.BathOrder) {
		for number := range int64(5) {
			for one := range l[0].Worth + 1 {
				for two := range l[1].Worth + 1 {
					look(l, number, costing(one, two))
				}
			}
		}
	})
	if right == 0 || wrong == 0 {
		t.Error("all prices are right, or none are", right, wrong)
	}
}

// P7.12: with one order more the fewest baths are as many, or one more.
func TestMoreOrders(t *testing.T) {
	as, more := 0, 0
	books(t, func(d dice, l []api.BathOrder) {
		if !isWhole(l) {
			return
		}
		longer := slices.Insert(slices.Clone(l), d.IntN(len(l)+1), d.order(lastTime(l), 5, true))
		switch len(mustBest(t, longer)) - len(mustBest(t, l)) {
		case 0:
			as++
		case 1:
			more++
		default:
			t.Fatal(l, longer)
		}
	})
	if as == 0 || more == 0 {
		t.Error("always as many, or always more", as, more)
	}
}

// within returns a range that is not wider than another one.
func (d dice) within(r api.Range) api.Range {
	one, two := r.Lo+d.Int64N(r.Hi-r.Lo+1), r.Lo+d.Int64N(r.Hi-r.Lo+1)
	return from(min(one, two), max(one, two))
}

// P7.12: with a wider Age or a narrower At baths are not more, and not worth less.
func TestWider(t *testing.T) {
	books(t, func(d dice, l []api.BathOrder) {
		wider := slices.Clone(l)
		order := d.IntN(len(l))
		o := &wider[order]
		if d.IntN(2) == 0 {
			o.Age = from(max(0, o.Age.Lo-d.Int64N(3)), o.Age.Hi+d.Int64N(3))
		} else {
			o.At = d.within(o.At)
		}
		if isWhole(l) && len(mustBest(t, wider)) > len(mustBest(t, l)) {
			t.Fatal(l, wider)
		}
		for baths := range len(l) + 1 {
			if mustMost(t, wider, baths) < mustMost(t, l, baths) {
				t.Fatal(l, wider, baths)
			}
		}
	})
}

// P7.13: later by as much.
func TestMoved(t *testing.T) {
	books(t, func(d dice, l []api.BathOrder) {
		later := 1 + d.Int64N(9000)
		moved := slices.Clone(l)
		for i := range moved {
			moved[i].At.Lo += later
			moved[i].At.Hi += later
		}
		if e := bath.CheckOrders(moved); e != api.OK {
			t.Fatal(moved, e)
		}
		for order := range l {
			one, e := bath.Births(l, order)
			two, f := bath.Births(moved, order)
			if e != f || e == api.OK && two != from(one.Lo+later, one.Hi+later) {
				t.Fatal(l, later, order, one, two, e, f)
			}
		}
		for baths := range len(l) + 1 {
			if mustMost(t, l, baths) != mustMost(t, moved, baths) {
				t.Fatal(l, later, baths)
			}
		}
		if !isWhole(l) {
			return
		}
		one, two := mustBest(t, l), mustBest(t, moved)
		for i := range one {
			one[i] += later
		}
		if !slices.Equal(one, two) || !slices.Equal(mustCost(t, l), mustCost(t, moved)) {
			t.Fatal(l, later, one, two)
		}
	})
}

// P7.13: many times as great.
func TestManyTimes(t *testing.T) {
	books(t, func(d dice, l []api.BathOrder) {
		times := d.Int64N(10000)
		greater := slices.Clone(l)
		for i := range greater {
			greater[i].Worth *= times
		}
		if e := bath.CheckOrders(greater); e != api.OK {
			t.Fatal(greater, e)
		}
		for baths := range len(l) + 1 {
			if mustMost(t, greater, baths) != times*mustMost(t, l, baths) {
				t.Fatal(l, times, baths)
			}
		}
	})
}

// great returns fourteen orders of long times that are worth much.
func (d dice) great(whole bool) []api.BathOrder {
	var l []api.BathOrder
	last, most, few := []int64{40, 300, 10000}[d.IntN(3)], []int64{3, 1000, 100000}[d.IntN(3)], 1+d.Int64N(40)
	for range 14 {
		o := d.order(last, most, whole)
		if d.IntN(3) > 0 { // few births, so that many baths are needed
			o.At = from(o.At.Lo, o.At.Lo)
			o.Age.Lo = max(o.Age.Lo, o.Age.Hi-last/few)
		}
		l = append(l, o)
	}
	return l
}

// P7.3 to P7.7 for fourteen orders, of which baths, orders that are apart and prices prove what is the best.
func TestManyOrders(t *testing.T) {
	counts := map[int]bool{}
	for n := range uint64(60) {
		d := newDice(5000 + n)
		l := d.great(n%3 > 0)
		last := int64(0)
		for baths := range api.MaxBathBaths + 1 {
			worth := mustMost(t, l, baths)
			if bound := mustBound(t, l, baths); bound != worth || worth < last {
				t.Fatal(l, baths, bound, worth, last)
			}
			last = worth
		}
		if n%3 == 0 {
			continue
		}
		births, apart := mustBest(t, l), mustApart(t, l)
		if e, f := bath.CheckBaths(l, births), bath.CheckApart(l, apart); e != api.OK || f != api.OK || len(births) != len(apart) {
			t.Fatal(l, births, apart, e, f)
		}
		counts[len(births)] = true
		costs := mustCost(t, l)
		for order := range l {
			if slices.Contains(costs, order) != (len(mustBest(t, without(l, order))) < len(births)) {
				t.Fatal(l, order, costs)
			}
		}
	}
	if len(counts) < 6 {
		t.Error("some numbers of baths do not come", counts)
	}
}
