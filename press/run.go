package press

import (
	"slices"

	"oxgall/api"
	"oxgall/lists"
)

// outs is when the sheet at each place of an order is out, and -1 at places at
// which no sheet is.
type outs [api.MaxPressSheets]int64

// none is the outs of no sheets.
var none = outs{-1, -1, -1, -1, -1, -1, -1, -1}

// run is a day whose sheets are done in an order.
type run struct {
	*day
	order []int
	outs  outs
}

// started returns a day that is done in an order, if both are as they have to be.
func started(l []api.PressSheet, order []int) (*run, api.Errno) {
	d, e := opened(l)
	if e != api.OK {
		return nil, e
	}
	outs := d.done(order)
	if outs == none {
		return nil, api.ErrEqual
	}
	return &run{d, order, outs}, api.OK
}

// done returns when the sheets of an order are out, or none if it is no order.
func (d *day) done(order []int) outs {
	outs := none
	if !lists.IsOrder(order, len(d.sheets)) {
		return outs
	}
	var left, free int64 // when the last sheet left the bath, and the press
	for place, sheet := range order {
		left += d.draw(sheet)
		free = max(left+d.sheets[sheet].Dry, free) + d.press(sheet)
		outs[place] = free
	}
	return outs
}

// critical returns the critical sheet of the order.
func (r *run) critical() int {
	var rows []int64
	for i := range r.order {
		rows = append(rows, r.row(placeOf(r.order[:i+1])))
	}
	return r.order[slices.Index(rows, slices.Max(rows))]
}

// lines returns the lines of the order. Sheets begin to hang only when one leaves
// the bath, so only then more of them can hang than before.
func (r *run) lines() int {
	var hangs []api.Range
	for i, sheet := range r.order {
		left, pressed := r.draws[placeOf(r.order[:i+1]).drawn], r.outs[i]-r.press(sheet)
		hangs = append(hangs, api.Range{Lo: left, Hi: pressed - 1})
	}
	most := 0
	for _, now := range hangs {
		lines := 0
		for _, h := range hangs {
			if lists.Within(h.Lo, h.Hi, now.Lo) {
				lines++
			}
		}
		most = max(most, lines)
	}
	return most
}
