package bath_test

import (
	"math/rand/v2"
	"slices"
	"testing"

	"oxgall/api"
	"oxgall/bath"
)

// orders returns orders: of each the ends of its At and of its Age, and its Worth.
func orders(numbers ...int64) []api.BathOrder {
	var l []api.BathOrder
	for i := 0; i < len(numbers); i += 5 {
		l = append(l, api.BathOrder{At: from(numbers[i], numbers[i+1]), Age: from(numbers[i+2], numbers[i+3]), Worth: numbers[i+4]})
	}
	return l
}

// born returns orders of the minute 100, of each its first birth, its last one, both below 100, and its Worth.
func born(numbers ...int64) []api.BathOrder {
	var l []api.BathOrder
	for i := 0; i < len(numbers); i += 3 {
		l = append(l, orders(100, 100, 100-numbers[i+1], 100-numbers[i], numbers[i+2])...)
	}
	return l
}

// alike returns n orders that are all the same.
func alike(n int, numbers ...int64) []api.BathOrder { return slices.Repeat(orders(numbers...), n) }

// chapterA and chapterB are the orders A and B of the chapter's examples.
func chapterA() []api.BathOrder {
	return orders(100, 110, 20, 60, 5, 90, 90, 10, 30, 3, 150, 150, 0, 40, 4, 130, 130, 25, 50, 6)
}

func chapterB() []api.BathOrder {
	l := chapterA()
	l[3].At, l[3].Age = from(130, 140), from(30, 35)
	return l
}

func from(lo, hi int64) api.Range { return api.Range{Lo: lo, Hi: hi} }

func of(l ...int) []int { return l }

func at(births ...int64) []int64 { return births }

func costing(prices ...int64) []int64 { return prices }

// isRight tells, minute by minute, whether a bath of a birth is of the right age for an order.
func isRight(o api.BathOrder, birth int64) bool {
	for minute := o.At.Lo; minute <= o.At.Hi; minute++ {
		if age := minute - birth; age < o.Age.Lo || age > o.Age.Hi {
			return false
		}
	}
	return true
}

// bits returns which orders are done by a bath of a birth.
func bits(l []api.BathOrder, births ...int64) int {
	done := 0
	for i, o := range l {
		if slices.ContainsFunc(births, func(birth int64) bool { return isRight(o, birth) }) {
			done |= 1 << i
		}
	}
	return done
}

// listed returns the orders of some bits.
func listed(bits int) []int {
	var out []int
	for i := 0; bits>>i > 0; i++ {
		if bits>>i&1 == 1 {
			out = append(out, i)
		}
	}
	return out
}

func worthOf(l []api.BathOrder, bits int) int64 {
	var sum int64
	for _, order := range listed(bits) {
		sum += l[order].Worth
	}
	return sum
}

// lastTime returns the greatest time of some orders. Births are not farther from 0.
func lastTime(l []api.BathOrder) int64 {
	var last int64
	for _, o := range l {
		last = max(last, o.At.Hi, o.Age.Hi)
	}
	return last
}

// baths calls a function with all baths, at most so many, that are not farther from 0 than orders need.
func baths(l []api.BathOrder, most int, look func(births []int64)) {
	last := lastTime(l)
	var grow func(births []int64)
	grow = func(births []int64) {
		look(births)
		if len(births) == most {
			return
		}
		first := -last
		if len(births) > 0 {
			first = births[len(births)-1] + 1
		}
		for birth := first; birth <= last; birth++ {
			grow(append(slices.Clone(births), birth))
		}
	}
	grow(nil)
}

// reached returns which sets of orders at most so many baths can do, for each number up to the greatest.
func reached(l []api.BathOrder, most int) []map[int]bool {
	last := lastTime(l)
	kinds := map[int]bool{}
	for birth := -last; birth <= last; birth++ {
		kinds[bits(l, birth)] = true
	}
	out := []map[int]bool{{0: true}}
	for n := range most {
		next := map[int]bool{}
		for done := range out[n] {
			next[done] = true
			for kind := range kinds {
				next[done|kind] = true
			}
		}
		out = append(out, next)
	}
	return out
}

// fewestOf returns how many baths all orders need, if all have births.
func fewestOf(l []api.BathOrder) int {
	return slices.IndexFunc(reached(l, len(l)), func(done map[int]bool) bool { return done[1<<len(l)-1] })
}

// mostsOf returns the most that at most so many baths are worth, for each number up to the greatest.
func mostsOf(l []api.BathOrder, most int) []int64 {
	var out []int64
	for _, sets := range reached(l, most) {
		var worth int64
		for done := range sets {
			worth = max(worth, worthOf(l, done))
		}
		out = append(out, worth)
	}
	return out
}

// birthsOf returns all births of an order.
func birthsOf(o api.BathOrder) []int64 {
	last := lastTime([]api.BathOrder{o})
	var births []int64
	for birth := -last; birth <= last; birth++ {
		if isRight(o, birth) {
			births = append(births, birth)
		}
	}
	return births
}

// isWhole tells whether all orders have births.
func isWhole(l []api.BathOrder) bool {
	return !slices.ContainsFunc(l, func(o api.BathOrder) bool { return len(birthsOf(o)) == 0 })
}

// without returns orders without one of them.
func without(l []api.BathOrder, order int) []api.BathOrder {
	return slices.Delete(slices.Clone(l), order, order+1)
}

// areApart tells whether no birth is one of two of some orders.
func areApart(l []api.BathOrder, some []int) bool {
	for i, one := range some {
		for _, two := range some[:i] {
			if slices.ContainsFunc(birthsOf(l[one]), func(birth int64) bool { return isRight(l[two], birth) }) {
				return false
			}
		}
	}
	return true
}

// areRight tells whether prices are right, birth by birth.
func areRight(l []api.BathOrder, number int64, prices []int64) bool {
	last := lastTime(l)
	for birth := -last - 1; birth <= last+1; birth++ {
		var sum int64
		for _, order := range listed(bits(l, birth)) {
			sum += prices[order]
		}
		if sum > number {
			return false
		}
	}
	return true
}

// boundOf returns the bound of prices.
func boundOf(l []api.BathOrder, baths int, number int64, prices []int64) int64 {
	bound := int64(baths) * number
	for i, price := range prices {
		bound += l[i].Worth - price
	}
	return bound
}

// dice makes orders, the same in each run.
type dice struct{ *rand.Rand }

func newDice(n uint64) dice { return dice{rand.New(rand.NewPCG(n, 7))} }

// span returns a range whose ends are from 0 to a minute.
func (d dice) span(last int64) api.Range {
	one, two := d.Int64N(last+1), d.Int64N(last+1)
	return from(min(one, two), max(one, two))
}

// order returns an order, with births if it is whole.
func (d dice) order(last, worth int64, whole bool) api.BathOrder {
	for {
		o := api.BathOrder{At: d.span(last), Age: d.span(last), Worth: d.Int64N(worth + 1)}
		if d.IntN(2) == 0 {
			o.At.Hi = o.At.Lo
		}
		if !whole || o.At.Hi-o.Age.Hi <= o.At.Lo-o.Age.Lo {
			return o
		}
	}
}

// orders returns at most so many orders.
func (d dice) orders(most int, whole bool) []api.BathOrder {
	last := []int64{1, 3, 5, 8}[d.IntN(4)]
	worth := []int64{1, 3, 9}[d.IntN(3)]
	var l []api.BathOrder
	for range 1 + d.IntN(most) {
		l = append(l, d.order(last, worth, whole))
	}
	return l
}

// prices returns a number for each order, and one for a bath that is often right with them.
func (d dice) prices(l []api.BathOrder) (int64, []int64) {
	var prices []int64
	var sum int64
	for _, o := range l {
		price := d.Int64N(o.Worth + 1)
		prices = append(prices, price)
		sum += price
	}
	return d.Int64N(sum + 2), prices
}

// books calls a function with many lists of a few orders, and some that are not made by dice.
func books(t *testing.T, look func(d dice, l []api.BathOrder)) {
	t.Helper()
	for i, l := range [][]api.BathOrder{
		chapterA(), chapterB(), alike(1, 0, 0, 0, 0, 0), alike(4, 0, 0, 0, 0, 1), alike(3, 5, 6, 0, 0, 2),
		born(0, 1, 5, 2, 3, 5, 4, 5, 5, 6, 7, 5), born(0, 9, 4, 0, 2, 3, 2, 4, 2, 4, 6, 1, 6, 9, 2), born(0, 3, 2, 3, 6, 2, 6, 9, 2),
	} {
		look(newDice(uint64(1000+i)), l)
	}
	for n := range uint64(400) {
		d := newDice(n)
		l := d.orders(5, n%4 > 0)
		if e := bath.CheckOrders(l); e != api.OK {
			t.Fatal("not valid orders", l, e)
		}
		look(d, l)
	}
}

// tiny calls a function with all lists of just so many orders whose times are at most so late.
func tiny(many int, last int64, worths []int64, look func(l []api.BathOrder)) {
	var spans []api.Range
	for lo := range last + 1 {
		for hi := lo; hi <= last; hi++ {
			spans = append(spans, from(lo, hi))
		}
	}
	var grow func(l []api.BathOrder)
	grow = func(l []api.BathOrder) {
		if len(l) == many {
			look(l)
			return
		}
		for _, minutes := range spans {
			for _, age := range spans {
				for _, worth := range worths {
					grow(append(slices.Clone(l), api.BathOrder{At: minutes, Age: age, Worth: worth}))
				}
			}
		}
	}
	grow(nil)
}

func mustDo(t *testing.T, l []api.BathOrder, birth int64) []int {
	t.Helper()
	done, e := bath.Does(l, birth)
	if e != api.OK {
		t.Fatal(l, birth, e)
	}
	return done
}

func mustBest(t *testing.T, l []api.BathOrder) []int64 {
	t.Helper()
	births, e := bath.Best(l)
	if e != api.OK {
		t.Fatal(l, e)
	}
	return births
}

func mustApart(t *testing.T, l []api.BathOrder) []int {
	t.Helper()
	apart, e := bath.Apart(l)
	if e != api.OK {
		t.Fatal(l, e)
	}
	return apart
}

func mustCost(t *testing.T, l []api.BathOrder) []int {
	t.Helper()
	costs, e := bath.Costs(l)
	if e != api.OK {
		t.Fatal(l, e)
	}
	return costs
}

func mustWorth(t *testing.T, l []api.BathOrder, births []int64) int64 {
	t.Helper()
	worth, e := bath.Worth(l, births)
	if e != api.OK {
		t.Fatal(l, births, e)
	}
	return worth
}

// mustMost returns what Most returns, if its baths are worth it.
func mustMost(t *testing.T, l []api.BathOrder, baths int) int64 {
	t.Helper()
	worth, births, e := bath.Most(l, baths)
	if e != api.OK || len(births) > baths || mustWorth(t, l, births) != worth {
		t.Fatal(l, baths, worth, births, e)
	}
	return worth
}

// mustBound returns the bound of the prices that Prices returns.
func mustBound(t *testing.T, l []api.BathOrder, baths int) int64 {
	t.Helper()
	number, prices, e := bath.Prices(l, baths)
	if e != api.OK {
		t.Fatal(l, baths, e)
	}
	bound, e := bath.CheckPrices(l, baths, number, prices)
	if e != api.OK {
		t.Fatal(l, baths, number, prices, e)
	}
	return bound
}
