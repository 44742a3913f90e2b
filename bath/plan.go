package bath

import (
	"cmp"
	"slices"

	"oxgall/lists"
)

// plan is some baths and what they are worth.
type plan struct {
	births []int64
	worth  int64
}

// step is the last bath of some, counted in the births that count, and how many
// baths there are up to it.
type step struct{ last, baths int }

// plans is a book with the baths up to steps that are worth the most.
type plans struct {
	book
	kept  map[step]plan
	mosts []plan // for each number of baths those that are worth the most
}

// worth returns what baths are worth.
func (b book) worth(births ...int64) int64 {
	var sum int64
	for order, is := range b.does(births...) {
		if is {
			sum += b[order].Worth
		}
	}
	return sum
}

// longer returns a plan with one more bath behind all others.
func (b book) longer(p plan, birth int64) plan {
	// Several plans begin with the same baths, so their capacity is cut.
	births := append(p.births[:len(p.births):len(p.births)], birth)
	return plan{births, b.worth(births...)}
}

// best returns the first one of some plans that is worth the most.
func best(plans ...plan) plan {
	return slices.MaxFunc(plans, func(p, q plan) int { return cmp.Compare(p.worth, q.worth) })
}

// most returns baths that are worth the most, of all that are at most so many.
func (b book) most(baths int) plan {
	p := &plans{b, map[step]plan{{}: {}}, make([]plan, baths+1)}
	last := 0
	for birth := range b.births() {
		last++
		for before := range baths {
			p.reach(step{last, before + 1}, birth)
		}
	}
	return best(p.mosts...)
}

// reach keeps the plan up to a step that is worth the most. What a later bath adds
// to a plan depends only on its last bath, and is no less if that one is earlier, so
// no plan is kept that is worth no more than an earlier one with as many baths.
func (p *plans) reach(at step, birth int64) {
	for last := range at.last {
		if before, found := p.kept[step{last, at.baths - 1}]; found {
			p.kept[at] = best(p.kept[at], p.longer(before, birth))
		}
	}
	if p.kept[at].worth <= p.mosts[at.baths].worth {
		delete(p.kept, at)
		return
	}
	p.mosts[at.baths] = p.kept[at]
}

// arePrices tells whether each price is one of its order.
func (b book) arePrices(prices []int64) bool {
	for order, price := range prices {
		if !lists.Within(0, b[order].Worth, price) {
			return false
		}
	}
	return true
}

// together returns the prices of all orders that a bath does.
func (b book) together(birth int64, prices []int64) int64 {
	var sum int64
	for order, is := range b.does(birth) {
		if is {
			sum += prices[order]
		}
	}
	return sum
}

// areRight tells whether prices are right.
func (b book) areRight(bath int64, prices []int64) bool {
	for birth := range b.births() {
		if b.together(birth, prices) > bath {
			return false
		}
	}
	return true
}

// bound returns the bound of prices.
func (b book) bound(baths int, bath int64, prices []int64) int64 {
	bound := int64(baths) * bath
	for i, o := range b {
		bound += o.Worth - prices[i]
	}
	return bound
}

// prices returns right prices with a number for a bath. Those of the orders are as
// much as can be together: an order takes all that is left at its births, before
// those whose births end later, as it is less in the way of the orders behind it.
func (b book) prices(bath int64) []int64 {
	prices := make([]int64, len(b))
	var done marks
	for i, o := range b {
		if !o.hasBirths() {
			prices[i], done[i] = o.Worth, true
		}
	}
	for order, found := b.next(done); found; order, found = b.next(done) {
		prices[order] = b.left(order, bath, prices)
		done[order] = true
	}
	return prices
}

// left returns how much the price of an order can be beside those of others.
func (b book) left(order int, bath int64, prices []int64) int64 {
	left := []int64{b[order].Worth}
	for birth := range b.births() {
		if b[order].isDone(birth) {
			left = append(left, bath-b.together(birth, prices))
		}
	}
	return slices.Min(left)
}
