package press

import "oxgall/lists"

// place is which sheets are drawn already, and the last one of them.
type place struct {
	drawn lists.Set
	last  int
}

// with returns the place of the sheet that is drawn next.
func (p place) with(sheet int) place { return place{p.drawn.With(sheet), sheet} }

// placeOf returns the place to which an order comes that begins with some sheets.
func placeOf(order []int) place {
	var p place
	for _, sheet := range order {
		p = p.with(sheet)
	}
	return p
}

// behind returns the sheets that are not drawn yet.
func (d *day) behind(p place) lists.Set { return d.all() &^ p.drawn }

// row returns the row through the last sheet of a place, which is the same in all
// orders of the sheets before it, and of those behind it.
func (d *day) row(p place) int64 {
	s := d.sheets[p.last]
	return d.draws[p.drawn] + s.Dry + s.Press + d.presses[d.behind(p)]
}

// isLate tells whether the last sheet of a place, or those behind it, whatever
// their order, make the end later than that of a best order.
func (d *day) isLate(p place) bool {
	return max(d.row(p), d.draws[p.drawn]+d.soonest[d.behind(p)]) > d.end()
}

// canBegin tells whether a best order begins with some sheets, if one begins with
// all but the last one of them.
func (d *day) canBegin(order []int) bool { return !d.isLate(placeOf(order)) }

// best returns the first best order.
func (d *day) best() []int {
	best := make([]int, len(d.sheets))
search:
	for order := range lists.Orders(len(best), d.canBegin) {
		copy(best, order)
		break search // those behind it are as good, but not better
	}
	return best
}

// begun is a day with how many orders of the sheets up to a place there are, for
// just those places to which best orders come.
type begun struct {
	*day
	orders map[place]int
}

// begun returns a day with its places.
func (d *day) begun() *begun {
	b := &begun{d, map[place]int{}}
	b.goOn(place{}, 1)
	// All places with fewer sheets come earlier, so all orders up to one are counted when it comes.
	for drawn := range d.all() + 1 {
		for last := range drawn.Indexes() {
			at := place{drawn, last}
			orders, found := b.orders[at]
			switch {
			case d.isLate(at):
				delete(b.orders, at)
			case found:
				b.goOn(at, orders)
			}
		}
	}
	return b
}

// goOn counts some orders up to a place for each place that can be next.
func (b *begun) goOn(from place, orders int) {
	for next := range b.behind(from).Indexes() {
		b.orders[from.with(next)] += orders
	}
}

// count returns how many best orders there are.
func (b *begun) count() int {
	count := 0
	for last := range b.sheets {
		count += b.orders[place{b.all(), last}]
	}
	return count
}

// comes tells whether one sheet comes before another one in some best order.
func (b *begun) comes(one, two int) bool {
	for at := range b.orders {
		if at.last == two && at.drawn.Has(one) {
			return true
		}
	}
	return false
}

// spare returns the spare of a sheet. If it hangs longer, only the row through it
// is longer, by just as much.
func (b *begun) spare(sheet int) int64 {
	spare := int64(0)
	for at := range b.orders {
		if at.last == sheet {
			spare = max(spare, b.end()-b.row(at))
		}
	}
	return spare
}
