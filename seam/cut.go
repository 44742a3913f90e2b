package seam

import (
	"iter"
	"slices"

	"oxgall/lists"
)

// cut is which parts are cut already, as bits, and the last one of them.
type cut struct {
	parts, last int
}

// with returns a cut with one more part.
func (c cut) with(part int) cut { return cut{c.parts | 1<<part, part} }

// cutOf returns the cut of some parts, one behind another.
func cutOf(parts []int) cut {
	var c cut
	for _, part := range parts {
		c = c.with(part)
	}
	return c
}

// has tells whether a part is cut already.
func (c cut) has(part int) bool { return c.parts>>part&1 == 1 }

// cutting is a set with the least waste of each cut that begins with the part 0,
// but for those that no best order can come to.
type cutting struct {
	*set
	least map[cut]int64
}

// cutting returns a set with its cuts.
func (s *set) cutting() *cutting {
	c := &cutting{s, map[cut]int64{cut{}.with(0): 0}}
	most := s.fewest()*s.Period - s.long()
	// All cuts with fewer parts come earlier, so what is least for one is known when it comes.
	for parts := range 1 << len(s.Parts) {
		for last := range s.Parts {
			c.goOn(cut{parts, last}, most)
		}
	}
	return c
}

// goOn takes a cut away if it costs more than all wastes of a best order, and
// otherwise goes on from it with each part that is not cut. An order that comes
// to its last part with no more waste is best: less than a period comes behind
// that one, and rounds are whole.
func (c *cutting) goOn(from cut, most int64) {
	waste, found := c.least[from]
	if !found {
		return
	}
	if waste > most {
		delete(c.least, from)
		return
	}
	for next := range c.Parts {
		if from.has(next) {
			continue
		}
		to, sum := from.with(next), waste+c.between(from.last, next)
		if least, found := c.least[to]; !found || sum < least {
			c.least[to] = sum
		}
	}
}

// leads tells whether a best order can go on from a cut with a part. A best
// order has the least waste of each cut that it comes to: with less there were a
// better one.
func (c *cutting) leads(from cut, next int) bool {
	least, found := c.least[from.with(next)]
	return found && !from.has(next) && c.least[from]+c.between(from.last, next) == least
}

// orders yields the best orders that begin with the part 0.
func (c *cutting) orders() iter.Seq[[]int] {
	return lists.Orders(len(c.Parts), func(begin []int) bool {
		if len(begin) == 1 {
			return begin[0] == 0
		}
		before, next := begin[:len(begin)-1], begin[len(begin)-1]
		return c.leads(cutOf(before), next)
	})
}

// best returns the first best order that begins with the part 0.
func (c *cutting) best() []int {
	best := make([]int, len(c.Parts))
	for order := range c.orders() {
		copy(best, order)
		break
	}
	return best
}

// follows tells whether one part comes right behind another one in an order.
func follows(order []int, one, two int) bool {
	next := slices.Index(order, one) + 1
	return order[next%len(order)] == two
}
