package gall

import (
	"iter"

	"oxgall/api"
	"oxgall/lists"
)

// none is a window without places.
var none = api.Range{Lo: 0, Hi: -1}

// list is a valid list with the windows of its colours, and which ones come before each.
type list struct {
	api.GallList
	windows [api.MaxGallColours]api.Range
	before  befores
}

// opened returns a list with its windows, if it is valid.
func opened(l api.GallList) (*list, api.Errno) {
	if e := CheckList(l); e != api.OK {
		return nil, e
	}
	o := &list{GallList: l, before: paired(l.Before)}
	for colour := range l.Colours {
		o.windows[colour] = o.window(colour)
	}
	return o, api.OK
}

// openedFor returns a list with its windows, if it is valid and has some colours.
func openedFor(l api.GallList, colours ...int) (*list, api.Errno) {
	o, e := opened(l)
	if e != api.OK {
		return nil, e
	}
	if !lists.Every(colours, o.isColour) {
		return nil, api.ErrArg
	}
	return o, api.OK
}

// openedRight returns what openedFor does, if the list has a right order.
func openedRight(l api.GallList, colours ...int) (*list, api.Errno) {
	o, e := openedFor(l, colours...)
	if e != api.OK {
		return nil, e
	}
	if !o.isPossible() {
		return nil, api.ErrPlan
	}
	return o, api.OK
}

func (l *list) isColour(colour int) bool { return isIndex(l.GallList, colour) }

// last returns the last place.
func (l *list) last() int64 { return int64(len(l.Colours)) - 1 }

// window returns the window of a colour.
func (l *list) window(colour int) api.Range {
	c := l.Colours[colour]
	return api.Range{
		Lo: max(roundedUp(c.Strength.Hi-c.Most, l.Drag), 0),
		Hi: min(roundedDown(c.Strength.Lo-c.Least, l.Drag), l.last()),
	}
}

// roundedDown returns a quotient, rounded down.
func roundedDown(number, by int64) int64 {
	quotient := number / by
	if quotient*by > number {
		return quotient - 1
	}
	return quotient
}

// roundedUp returns a quotient, rounded up.
func roundedUp(number, by int64) int64 { return -roundedDown(-number, by) }

// common returns the places that two ranges have in common.
func common(one, two api.Range) api.Range {
	both := api.Range{Lo: max(one.Lo, two.Lo), Hi: min(one.Hi, two.Hi)}
	if both.Lo > both.Hi {
		return none
	}
	return both
}

// places yields all places of a range.
func places(r api.Range) iter.Seq[int] {
	return func(yield func(int) bool) {
		for place := r.Lo; place <= r.Hi; place++ {
			if !yield(int(place)) {
				return
			}
		}
	}
}

// only returns the range of one place.
func only(place int) api.Range { return api.Range{Lo: int64(place), Hi: int64(place)} }

// shown returns a range, if there is a place in it.
func (l *list) shown(r api.Range) (api.Range, api.Errno) {
	if common(r, api.Range{Lo: 0, Hi: l.last()}) == none {
		return api.Range{}, api.ErrPush
	}
	return r, api.OK
}

// suits tells whether a colour suits a place.
func (l *list) suits(colour, place int) bool {
	return common(l.windows[colour], only(place)) != none
}

// check returns what keeps an order from being right.
func (l *list) check(order []int) api.Errno {
	if !lists.IsOrder(order, len(l.Colours)) {
		return api.ErrEqual
	}
	for place, colour := range order {
		if !l.suits(colour, place) {
			return api.ErrPush
		}
	}
	var dropped lists.Set
	for _, colour := range order {
		if !dropped.Contains(l.before[colour]) {
			return api.ErrRule
		}
		dropped = dropped.With(colour)
	}
	return api.OK
}
