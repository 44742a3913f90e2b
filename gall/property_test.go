package gall_test

import (
	"slices"
	"testing"

	"oxgall/api"
	"oxgall/gall"
)

// P5.1: pairs lead back just if a colour is reached from itself.
func TestLeadsBack(t *testing.T) {
	found := map[api.Errno]int{}
	for n := range uint64(3000) {
		d := newDice(n)
		l := free(2 + d.IntN(9))
		for range d.IntN(3 * len(l.Colours) / 2) {
			pair := [2]int{d.IntN(len(l.Colours)), d.IntN(len(l.Colours))}
			if pair[0] != pair[1] && !slices.Contains(l.Before, pair) {
				l.Before = append(l.Before, pair)
			}
		}
		want := api.OK
		if leadsBack(l.Before) {
			want = api.ErrRule
		}
		if e := gall.CheckList(l); e != want {
			t.Fatal(l.Before, e, want)
		}
		found[want]++
	}
	if len(found) != 2 {
		t.Error("not both come", found)
	}
}

// P5.2 and P5.3: spreads, windows and bounds are those that the definitions give.
func TestWindowsByAll(t *testing.T) {
	shown := func(l api.GallList, r api.Range, colour int, look func(api.GallList, int) (api.Range, api.Errno)) {
		t.Helper()
		want := api.OK
		if r.Lo > r.Hi {
			r, want = from(0, 0), api.ErrPush
		}
		if got, e := look(l, colour); got != r || e != want {
			t.Fatal(l, colour, got, e, r)
		}
	}
	look := func(l api.GallList) {
		for colour, c := range l.Colours {
			w := windowOf(l, colour)
			shown(l, w, colour, gall.Window)
			shown(l, boundsOf(l, colour), colour, gall.Bounds)
			less := int64(0)
			for place := range l.Colours {
				want := from(c.Strength.Lo-less, c.Strength.Hi-less)
				if r, e := gall.Spread(l, colour, place); r != want || e != api.OK {
					t.Fatal(l, colour, place, r, e)
				}
				if in := w.Lo <= int64(place) && int64(place) <= w.Hi; in != suits(l, colour, int64(place)) {
					t.Fatal("the window is not all places that a colour suits", l, colour, place)
				}
				less += l.Drag
			}
		}
	}
	listsOf(t, func(_ dice, l api.GallList) { look(l) })
	tiny(look)
}

// P5.4, P5.5 and P5.8: orders are right, and the first one and their number are as all orders tell.
func TestOrdersByAll(t *testing.T) {
	kinds := map[bool]int{}
	look := func(l api.GallList) {
		orders(len(l.Colours), func(order []int) {
			if e := gall.CheckOrder(l, order); e != checked(l, order) {
				t.Fatal(l, order, e)
			}
		})
		all := allRight(l)
		kinds[len(all) > 0]++
		if n := mustCount(t, l); n != int64(len(all)) {
			t.Fatal(l, n, all)
		}
		order, e := gall.Order(l)
		switch {
		case len(all) == 0 && (e != api.ErrPlan || len(order) > 0):
			t.Fatal(l, order, e)
		case len(all) > 0 && (e != api.OK || !slices.Equal(order, all[0])):
			t.Fatal(l, order, e, all)
		}
	}
	listsOf(t, func(_ dice, l api.GallList) { look(l) })
	tiny(look)
	if kinds[true] < 200 || kinds[false] < 200 {
		t.Error("few lists of a kind", kinds)
	}
}

// P5.7 and P5.9: places, what comes before what, and swaps are as all orders tell.
func TestPlacesByAll(t *testing.T) {
	look := func(l api.GallList) {
		all := allRight(l)
		for colour := range l.Colours {
			var want []int
			for place := range l.Colours {
				if slices.ContainsFunc(all, func(order []int) bool { return order[place] == colour }) {
					want = append(want, place)
				}
			}
			places, e := gall.Places(l, colour)
			if !slices.Equal(places, want) || (e == api.OK) != (all != nil) || e != api.OK && e != api.ErrPlan {
				t.Fatal(l, colour, places, e, want)
			}
			for two := range l.Colours {
				behind := func(order []int) bool { return slices.Index(order, colour) >= slices.Index(order, two) }
				want := all != nil && !slices.ContainsFunc(all, behind)
				must, e := gall.Must(l, colour, two)
				if must != want || (e == api.OK) != (all != nil) || e != api.OK && e != api.ErrPlan {
					t.Fatal(l, colour, two, must, e)
				}
			}
		}
		for _, order := range all {
			var want []int
			for place := range len(order) - 1 {
				other := slices.Clone(order)
				other[place], other[place+1] = other[place+1], other[place]
				if checked(l, other) == api.OK {
					want = append(want, place)
				}
			}
			if swaps, e := gall.Swaps(l, order); !slices.Equal(swaps, want) || e != api.OK {
				t.Fatal(l, order, swaps, e, want)
			}
		}
	}
	listsOf(t, func(_ dice, l api.GallList) { look(l) })
	tiny(look)
}

// P5.6 and P5.10: there is either a right order or a right block, and the block is the one that is meant.
func TestEither(t *testing.T) {
	look := func(l api.GallList) {
		want := firstBlock(l)
		b, e := gall.Block(l)
		switch order, f := gall.Order(l); f {
		case api.OK:
			if e != api.ErrNone || !sameBlock(b, block(0, 0)) || len(want.Colours) > 0 || gall.CheckOrder(l, order) != api.OK {
				t.Fatal(l, order, b, e)
			}
		case api.ErrPlan:
			if e != api.OK || !sameBlock(b, want) || gall.CheckBlock(l, b) != api.OK {
				t.Fatal(l, b, e, want)
			}
		default:
			t.Fatal(l, f)
		}
	}
	listsOf(t, func(_ dice, l api.GallList) { look(l) })
	tiny(look)
}

// P5.6 and P5.10: CheckBlock finds what the definition gives, and no block is right where there is a right order.
func TestBlocksByAll(t *testing.T) {
	right := 0
	listsOf(t, func(_ dice, l api.GallList) {
		possible := mustCount(t, l) > 0
		for bits := 1; bits < 1<<len(l.Colours); bits++ {
			var colours []int
			for colour := range l.Colours {
				if bits>>colour&1 == 1 {
					colours = append(colours, colour)
				}
			}
			for begin := int64(-2); begin <= 5; begin++ {
				for end := begin - 3; end <= 5; end++ {
					b := block(begin, end, colours...)
					want := api.ErrSum
					if rightBlock(l, b) {
						want = api.OK
						right++
					}
					if e := gall.CheckBlock(l, b); e != want || possible && e == api.OK {
						t.Fatal(l, b, e, want)
					}
				}
			}
		}
	})
	if right == 0 {
		t.Error("no block is right")
	}
}

// P5.11: in a right order colours spread as they have to, and their places are within their bounds.
func TestWithin(t *testing.T) {
	look := func(l api.GallList) {
		for _, order := range allRight(l) {
			for place, colour := range order {
				c := l.Colours[colour]
				spread, e := gall.Spread(l, colour, place)
				if e != api.OK || spread.Lo < c.Least || spread.Hi > c.Most {
					t.Fatal(l, order, place, spread, e)
				}
				bounds, e := gall.Bounds(l, colour)
				if e != api.OK || int64(place) < bounds.Lo || int64(place) > bounds.Hi {
					t.Fatal(l, order, place, bounds, e)
				}
				places, e := gall.Places(l, colour)
				if e != api.OK || !slices.Contains(places, place) {
					t.Fatal(l, order, place, places, e)
				}
			}
		}
	}
	listsOf(t, func(_ dice, l api.GallList) { look(l) })
}

// P5.12
func TestMore(t *testing.T) {
	listsOf(t, func(d dice, l api.GallList) {
		count := mustCount(t, l)
		for one := range l.Colours {
			for two := range l.Colours {
				if one != two && mustCountWith(t, l, one, two) > count {
					t.Fatal(l, one, two)
				}
			}
			greater, lesser, narrower := copied(l), copied(l), copied(l)
			c := &greater.Colours[one]
			c.Least += d.Int64N(c.Most - c.Least + 1)
			if mustCount(t, greater) > count {
				t.Fatal(l, greater)
			}
			c = &lesser.Colours[one]
			c.Most -= d.Int64N(c.Most - c.Least + 1)
			if mustCount(t, lesser) > count {
				t.Fatal(l, lesser)
			}
			s := &narrower.Colours[one].Strength
			s.Lo += d.Int64N(s.Hi - s.Lo + 1)
			s.Hi -= d.Int64N(s.Hi - s.Lo + 1)
			if mustCount(t, narrower) < count {
				t.Fatal(l, narrower)
			}
		}
	})
}

// P5.7 and P5.13
func TestCounted(t *testing.T) {
	listsOf(t, func(_ dice, l api.GallList) {
		count := mustCount(t, l)
		if _, e := gall.Order(l); (e == api.ErrPlan) != (count == 0) {
			t.Fatal(l, count, e)
		}
		for one := range l.Colours {
			for two := range l.Colours {
				if one == two {
					continue
				}
				before, behind := mustCountWith(t, l, one, two), mustCountWith(t, l, two, one)
				if before+behind != count {
					t.Fatal(l, one, two, before, behind, count)
				}
				if must, _ := gall.Must(l, one, two); must != (count > 0 && behind == 0) {
					t.Fatal(l, one, two, must)
				}
			}
		}
	})
}

// likeOrders checks that all right orders of a list, turned round if that is meant, are right for another one, which has as many.
func likeOrders(t *testing.T, l, other api.GallList, turn bool) {
	t.Helper()
	all := allRight(l)
	for _, order := range all {
		if turn {
			slices.Reverse(order)
		}
		if e := gall.CheckOrder(other, order); e != api.OK {
			t.Fatal(l, other, order, e)
		}
	}
	if n := mustCount(t, other); n != int64(len(all)) {
		t.Fatal(l, other, n, all)
	}
}

// changed returns a list in which all Strengths, Leasts and Mosts are changed.
func changed(l api.GallList, change func(int64) int64) api.GallList {
	l = copied(l)
	for i, c := range l.Colours {
		strength := from(change(c.Strength.Lo), change(c.Strength.Hi))
		l.Colours[i] = api.GallColour{Strength: strength, Least: change(c.Least), Most: change(c.Most)}
	}
	return l
}

// P5.14: all numbers of colours are greater by as much.
func TestStronger(t *testing.T) {
	some := 0
	listsOf(t, func(d dice, l api.GallList) {
		more := d.Int64N(300)
		other := changed(l, func(n int64) int64 { return n + more })
		if gall.CheckList(other) == api.OK {
			likeOrders(t, l, other, false)
			some++
		}
	})
	if some < 100 {
		t.Error("few lists stay valid", some)
	}
}

// P5.14: all numbers, and Drag, are so many times as great.
func TestManyTimes(t *testing.T) {
	some := 0
	listsOf(t, func(_ dice, l api.GallList) {
		for times := int64(2); times < 9; times++ {
			other := changed(l, func(n int64) int64 { return times * n })
			other.Drag *= times
			if gall.CheckList(other) == api.OK {
				likeOrders(t, l, other, false)
				some++
			}
		}
	})
	if some < 100 {
		t.Error("few lists stay valid", some)
	}
}

// P5.15
func TestTurnedRound(t *testing.T) {
	some := 0
	look := func(l api.GallList) {
		other := copied(l)
		more := int64(len(l.Colours)-1) * l.Drag
		for i, c := range l.Colours {
			strength := from(api.MaxGallSpread-c.Strength.Hi+more, api.MaxGallSpread-c.Strength.Lo+more)
			other.Colours[i] = api.GallColour{Strength: strength, Least: api.MaxGallSpread - c.Most, Most: api.MaxGallSpread - c.Least}
		}
		for i, pair := range l.Before {
			other.Before[i] = [2]int{pair[1], pair[0]}
		}
		if gall.CheckList(other) == api.OK {
			likeOrders(t, l, other, true)
			some++
		}
	}
	listsOf(t, func(_ dice, l api.GallList) { look(l) })
	tiny(look)
	if some < 100 {
		t.Error("few lists stay valid", some)
	}
}

// P5.5 to P5.8 for lists of up to ten colours: what the right orders tell, which are searched place by place.
func TestManyColours(t *testing.T) {
	kinds := map[bool]int{}
	for n := range uint64(300) {
		d := newDice(7000 + n)
		l := d.list(10)
		count, best := int64(0), []int(nil)
		places := make([][10]bool, len(l.Colours))
		var grow func(order []int)
		grow = func(order []int) {
			if len(order) == len(l.Colours) {
				if !keeps(l, order) {
					return
				}
				if count++; best == nil {
					best = order
				}
				for place, colour := range order {
					places[colour][place] = true
				}
				return
			}
			for colour := range l.Colours {
				if !slices.Contains(order, colour) && suits(l, colour, int64(len(order))) {
					grow(append(slices.Clone(order), colour))
				}
			}
		}
		grow(nil)
		kinds[count > 0]++
		order, e := gall.Order(l)
		if !slices.Equal(order, best) || (e == api.OK) != (count > 0) || mustCount(t, l) != count {
			t.Fatal(l, order, e, best, count)
		}
		if b, e := gall.Block(l); !sameBlock(b, firstBlock(l)) || (e == api.ErrNone) != (count > 0) {
			t.Fatal(l, b, e)
		}
		for colour, are := range places {
			list, _ := gall.Places(l, colour)
			for place := range are {
				if slices.Contains(list, place) != are[place] {
					t.Fatal(l, colour, list, are)
				}
			}
		}
	}
	if kinds[true] < 50 || kinds[false] < 50 {
		t.Error("few lists of a kind", kinds)
	}
}
