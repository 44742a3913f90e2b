package bath

import (
	"iter"
	"slices"

	"oxgall/api"
	"oxgall/lists"
)

// entry is an order with its births, of which there are none if Lo is above Hi.
type entry struct {
	api.BathOrder
	births api.Range
}

// entered returns an order with its births: of the first one a bath is just not too
// old at the last minute of At, of the last one it is just old enough at the first.
func entered(o api.BathOrder) entry {
	birth := func(end func(api.Range) int64) int64 { return end(o.At) - end(o.Age) }
	return entry{o, api.Range{
		Lo: birth(func(r api.Range) int64 { return r.Hi }),
		Hi: birth(func(r api.Range) int64 { return r.Lo }),
	}}
}

func (o entry) hasBirths() bool { return o.births.Lo <= o.births.Hi }

// isDone tells whether a bath of a birth does an order.
func (o entry) isDone(birth int64) bool { return lists.Within(o.births.Lo, o.births.Hi, birth) }

// book is valid orders with their births.
type book []entry

// opened returns orders with their births, if they are valid.
func opened(l []api.BathOrder) (book, api.Errno) {
	if e := CheckOrders(l); e != api.OK {
		return nil, e
	}
	var b book
	for _, o := range l {
		b = append(b, entered(o))
	}
	return b, api.OK
}

// openedWhole returns orders with their births, if all have some.
func openedWhole(l []api.BathOrder) (book, api.Errno) {
	b, e := opened(l)
	if e != api.OK {
		return nil, e
	}
	if !lists.Every(b, entry.hasBirths) {
		return nil, api.ErrAge
	}
	return b, api.OK
}

// openedWith returns orders with their births, if some births are baths.
func openedWith(l []api.BathOrder, births []int64) (book, api.Errno) {
	b, e := opened(l)
	switch {
	case e != api.OK:
		return nil, e
	case len(births) > api.MaxBathBaths:
		return nil, api.ErrMany
	case !lists.Rising(births) || !lists.Within(-api.MaxBathTime, api.MaxBathTime, births...):
		return nil, api.ErrRange
	}
	return b, api.OK
}

// openedFor returns orders with their births, if there can be so many baths.
func openedFor(l []api.BathOrder, baths int) (book, api.Errno) {
	b, e := opened(l)
	if e != api.OK {
		return nil, e
	}
	if !lists.Within(0, api.MaxBathBaths, int64(baths)) {
		return nil, api.ErrArg
	}
	return b, api.OK
}

func (b book) isOrder(order int) bool { return 0 <= order && order < len(b) }

// marks is some orders.
type marks [api.MaxBathOrders]bool

// all returns all orders.
func (b book) all() marks {
	var all marks
	for order := range b {
		all[order] = true
	}
	return all
}

// does returns the orders that one of some baths does.
func (b book) does(births ...int64) marks {
	var done marks
	for i, o := range b {
		done[i] = slices.ContainsFunc(births, o.isDone)
	}
	return done
}

// births yields the births that count, increasing. Until the births of an order end
// a later bath does no order less, so baths are mixed when those of some order do.
func (b book) births() iter.Seq[int64] {
	var ends []int64
	for _, o := range b {
		ends = append(ends, o.births.Hi)
	}
	slices.Sort(ends)
	ends = slices.Compact(ends)
	return func(yield func(int64) bool) {
		for _, end := range ends {
			if b.does(end) != (marks{}) && !yield(end) {
				return
			}
		}
	}
}

// areApart tells whether no bath does two of some orders.
func (b book) areApart(orders []int) bool {
	for birth := range b.births() {
		done := b.does(birth)
		both := 0
		for _, order := range orders {
			if done[order] {
				both++
			}
		}
		if both > 1 {
			return false
		}
	}
	return true
}

// due returns which orders are due if a bath is mixed only at the end of the births
// of one that no bath before it does. Some orders are spared. The births of each that
// is due begin behind the bath before it, so they are apart, and fewer baths do not
// do; and by the end of each as many baths have to be there, so none comes later.
func (b book) due(spared marks) []int {
	var due []int
	done := spared
	for next, found := b.next(done); found; next, found = b.next(done) {
		due = append(due, next)
		for order, is := range b.does(b[next].births.Hi) {
			done[order] = done[order] || is
		}
	}
	return due
}

// next returns the order whose births end first, of those that are not done.
func (b book) next(done marks) (int, bool) {
	next, found := 0, false
search:
	for birth := range b.births() {
		for i, o := range b {
			if !done[i] && o.births.Hi == birth {
				next, found = i, true
				break search
			}
		}
	}
	return next, found
}

// costs returns the orders that cost a bath.
func (b book) costs() []int {
	var costs []int
	var spared marks
	fewest := len(b.due(spared))
	for order := range b {
		clear(spared[:])
		spared[order] = true
		if len(b.due(spared)) < fewest {
			costs = append(costs, order)
		}
	}
	return costs
}
