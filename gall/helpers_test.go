package gall_test

import (
	"math/rand/v2"
	"slices"
	"testing"

	"oxgall/api"
	"oxgall/gall"
	"oxgall/lists"
)

// list returns a list: of each colour both ends of its Strength, its Least and its Most.
func list(drag int64, numbers ...int64) api.GallList {
	l := api.GallList{Drag: drag}
	for i := 0; i < len(numbers); i += 4 {
		strength := api.Range{Lo: numbers[i], Hi: numbers[i+1]}
		l.Colours = append(l.Colours, api.GallColour{Strength: strength, Least: numbers[i+2], Most: numbers[i+3]})
	}
	return l
}

// alike returns a list of n colours that are all the same.
func alike(n int, drag, lo, hi, least, most int64) api.GallList {
	return list(drag, slices.Repeat([]int64{lo, hi, least, most}, n)...)
}

// free returns a list of n colours that suit all places.
func free(n int) api.GallList { return alike(n, 1, 500, 500, 0, 1000) }

// windowed returns a list of colours with these windows.
func windowed(windows ...api.Range) api.GallList {
	l := api.GallList{Drag: 10}
	for _, w := range windows {
		strength := api.Range{Lo: 500, Hi: 500}
		l.Colours = append(l.Colours, api.GallColour{Strength: strength, Least: 500 - 10*w.Hi, Most: 500 - 10*w.Lo})
	}
	return l
}

// paired returns a list with more pairs.
func paired(l api.GallList, pairs ...[2]int) api.GallList {
	l = copied(l)
	l.Before = append(l.Before, pairs...)
	return l
}

// chain is a list of n colours that suit all places, and come one before another from the last one on.
func chain(n int) api.GallList {
	l := free(n)
	for colour := range n - 1 {
		l.Before = append(l.Before, [2]int{colour + 1, colour})
	}
	return l
}

// chapterL and chapterM are the lists L and M of the chapter's examples.
func chapterL() api.GallList {
	l := list(10, 100, 110, 60, 110, 90, 95, 75, 100, 120, 125, 80, 110, 80, 80, 70, 200)
	return paired(l, [2]int{3, 1})
}

func chapterM() api.GallList {
	l := chapterL()
	l.Colours[0].Least = 90
	return l
}

func of(l ...int) []int { return l }

func from(lo, hi int64) api.Range { return api.Range{Lo: lo, Hi: hi} }

func block(from, to int64, colours ...int) api.GallBlock {
	return api.GallBlock{From: from, To: to, Colours: colours}
}

func sameBlock(a, b api.GallBlock) bool {
	return a.From == b.From && a.To == b.To && slices.Equal(a.Colours, b.Colours)
}

func copied(l api.GallList) api.GallList {
	l.Colours, l.Before = slices.Clone(l.Colours), slices.Clone(l.Before)
	return l
}

func sameList(a, b api.GallList) bool {
	return a.Drag == b.Drag && slices.Equal(a.Colours, b.Colours) && slices.Equal(a.Before, b.Before)
}

// suits tells whether a colour spreads as it has to at a place, whatever its strength is.
func suits(l api.GallList, colour int, place int64) bool {
	c := l.Colours[colour]
	for strength := c.Strength.Lo; strength <= c.Strength.Hi; strength++ {
		spread := strength
		for range place {
			spread -= l.Drag
		}
		if spread < c.Least || spread > c.Most {
			return false
		}
	}
	return true
}

// windowOf returns the window of a colour, place by place.
func windowOf(l api.GallList, colour int) api.Range {
	c := l.Colours[colour]
	w := api.Range{Lo: 0, Hi: int64(len(l.Colours)) - 1}
	for c.Strength.Hi-w.Lo*l.Drag > c.Most {
		w.Lo++
	}
	for c.Strength.Lo-w.Hi*l.Drag < c.Least {
		w.Hi--
	}
	return w
}

// boundsOf returns the bounds of a colour as they are defined, from those of others.
func boundsOf(l api.GallList, colour int) api.Range {
	b := windowOf(l, colour)
	for _, pair := range l.Before {
		if pair[1] == colour {
			b.Lo = max(b.Lo, loOf(l, pair[0])+1)
		}
		if pair[0] == colour {
			b.Hi = min(b.Hi, hiOf(l, pair[1])-1)
		}
	}
	return b
}

func loOf(l api.GallList, colour int) int64 {
	lo := windowOf(l, colour).Lo
	for _, pair := range l.Before {
		if pair[1] == colour {
			lo = max(lo, loOf(l, pair[0])+1)
		}
	}
	return lo
}

func hiOf(l api.GallList, colour int) int64 {
	hi := windowOf(l, colour).Hi
	for _, pair := range l.Before {
		if pair[0] == colour {
			hi = min(hi, hiOf(l, pair[1])-1)
		}
	}
	return hi
}

// leadsBack tells whether pairs lead from a colour back to it.
func leadsBack(pairs [][2]int) bool {
	reach := map[[2]int]bool{}
	for _, pair := range pairs {
		reach[pair] = true
	}
	for by := range 10 {
		for one := range 10 {
			for two := range 10 {
				if reach[[2]int{one, by}] && reach[[2]int{by, two}] {
					reach[[2]int{one, two}] = true
				}
			}
		}
	}
	for one := range 10 {
		if reach[[2]int{one, one}] {
			return true
		}
	}
	return false
}

// keeps tells whether in each pair the first colour comes before the second one.
func keeps(l api.GallList, order []int) bool {
	return !slices.ContainsFunc(l.Before, func(pair [2]int) bool {
		return slices.Index(order, pair[0]) > slices.Index(order, pair[1])
	})
}

// orders calls a function with all orders of n colours, in lexicographic order.
func orders(n int, look func(order []int)) {
	for order := range lists.Orders(n, func([]int) bool { return true }) {
		look(order)
	}
}

// checked returns what is wrong with an order.
func checked(l api.GallList, order []int) api.Errno {
	for place, colour := range order {
		if !suits(l, colour, int64(place)) {
			return api.ErrPush
		}
	}
	if !keeps(l, order) {
		return api.ErrRule
	}
	return api.OK
}

// allRight returns all right orders, in lexicographic order.
func allRight(l api.GallList) [][]int {
	var out [][]int
	orders(len(l.Colours), func(order []int) {
		if checked(l, order) == api.OK {
			out = append(out, order)
		}
	})
	return out
}

// rightBlock tells whether a block is right, as it is defined.
func rightBlock(l api.GallList, b api.GallBlock) bool {
	for _, colour := range b.Colours {
		if bounds := boundsOf(l, colour); bounds.Lo < b.From || bounds.Hi > b.To {
			return false
		}
	}
	return int64(len(b.Colours)) > b.To-b.From+1
}

// firstBlock returns the block that P5.6 means, or one without colours.
func firstBlock(l api.GallList) api.GallBlock {
	var bounds []api.Range
	for colour := range l.Colours {
		bounds = append(bounds, boundsOf(l, colour))
	}
	var best api.GallBlock
	for _, one := range bounds {
		for _, two := range bounds {
			b := block(one.Lo, two.Hi)
			for colour, r := range bounds {
				if r.Lo >= b.From && r.Hi <= b.To {
					b.Colours = append(b.Colours, colour)
				}
			}
			earlier := len(best.Colours) == 0 || b.From < best.From || b.From == best.From && b.To < best.To
			if len(b.Colours) > 0 && rightBlock(l, b) && earlier {
				best = b
			}
		}
	}
	return best
}

// dice makes lists, the same in each run.
type dice struct{ *rand.Rand }

func newDice(n uint64) dice { return dice{rand.New(rand.NewPCG(n, 5))} }

// list returns a valid list of at most so many colours. For most lists there is an
// order that hardly any colour keeps from being right.
func (d dice) list(most int) api.GallList {
	order := d.Perm(1 + d.IntN(most))
	l := api.GallList{Drag: 1 + d.Int64N(30)}
	for _, place := range order {
		l.Colours = append(l.Colours, d.colour(l.Drag, int64(place)))
	}
	if d.IntN(3) == 0 {
		order = d.Perm(len(order))
	}
	pairs := d.IntN(2 * len(order))
	for range pairs {
		one, two := d.IntN(len(order)), d.IntN(len(order))
		if pair := [2]int{one, two}; order[one] < order[two] && !slices.Contains(l.Before, pair) {
			l.Before = append(l.Before, pair)
		}
	}
	return l
}

// colour returns a colour that suits few places, most times this one among them.
func (d dice) colour(drag, place int64) api.GallColour {
	lo, hi := place-d.Int64N(3), place+d.Int64N(3)
	if d.IntN(12) == 0 {
		lo, hi = d.Int64N(9)-1, d.Int64N(9)-1
	}
	strength := from(400+d.Int64N(100), 0)
	strength.Hi = strength.Lo + d.Int64N(2*drag)
	least := strength.Lo - hi*drag - d.Int64N(drag)
	top := strength.Hi - lo*drag + d.Int64N(drag)
	return api.GallColour{Strength: strength, Least: min(least, top), Most: max(least, top)}
}

// loose returns any valid list with small numbers.
func (d dice) loose() api.GallList {
	l := api.GallList{Drag: 1 + d.Int64N(4)}
	two := func() (int64, int64) {
		one, other := d.Int64N(12), d.Int64N(12)
		return min(one, other), max(one, other)
	}
	for range 1 + d.IntN(4) {
		var c api.GallColour
		c.Strength.Lo = d.Int64N(12)
		c.Strength.Hi = c.Strength.Lo + d.Int64N(3)
		c.Least, c.Most = two()
		l.Colours = append(l.Colours, c)
	}
	return l
}

// listsOf calls a function with many small valid lists, and some that are not made by dice.
func listsOf(t *testing.T, look func(d dice, l api.GallList)) {
	t.Helper()
	for i, l := range []api.GallList{
		chapterL(), chapterM(), free(1), free(2), free(5), chain(4), chain(5), list(7, 3, 9, 1, 8), list(1, 3, 9, 4, 8),
		windowed(from(0, 2), from(0, 2), from(0, 2)), windowed(from(0, 1), from(1, 1), from(0, 1)),
		windowed(from(1, 2), from(1, 2), from(1, 2)), windowed(from(5, 40), from(0, 0), from(0, 3)),
		list(100, 0, 0, 1000, 1000, 1000, 1000, 0, 0), list(1, 0, 0, 1000, 1000, 1000, 1000, 0, 0),
		paired(list(1, 0, 0, 1000, 1000, 1000, 1000, 0, 0, 5, 5, 0, 5), [2]int{1, 2}, [2]int{2, 0}),
		paired(free(5), [2]int{4, 2}, [2]int{2, 0}, [2]int{4, 1}, [2]int{1, 0}, [2]int{4, 0}),
	} {
		look(newDice(uint64(1000+i)), l)
	}
	for n := range uint64(500) {
		d := newDice(n)
		l := d.list(5)
		if n%3 == 0 {
			l = d.loose()
		}
		if e := gall.CheckList(l); e != api.OK {
			t.Fatal("not a valid list", l, e)
		}
		look(d, l)
	}
}

// tiny calls a function with all lists of at most three colours whose windows are the few that can make a difference, and all pairs of them.
func tiny(look func(l api.GallList)) {
	windows := []api.Range{from(0, 0), from(0, 1), from(0, 2), from(1, 1), from(1, 2), from(2, 2), from(4, 9)}
	pairs := [][2]int{{0, 1}, {1, 0}, {0, 2}, {2, 0}, {1, 2}, {2, 1}}
	var grow func(ranges []api.Range)
	grow = func(ranges []api.Range) {
		for bits := range 1 << len(pairs) {
			l := windowed(ranges...)
			for i, pair := range pairs {
				if bits>>i&1 == 1 {
					l.Before = append(l.Before, pair)
				}
			}
			if gall.CheckList(l) == api.OK {
				look(l)
			}
		}
		if len(ranges) == 3 {
			return
		}
		for _, w := range windows {
			grow(append(slices.Clone(ranges), w))
		}
	}
	grow(nil)
}

func mustCount(t *testing.T, l api.GallList) int64 {
	t.Helper()
	n, e := gall.Count(l)
	if e != api.OK {
		t.Fatal(l, e)
	}
	return n
}

// mustCountWith returns how many right orders there are with one more pair, which may lead back.
func mustCountWith(t *testing.T, l api.GallList, one, two int) int64 {
	t.Helper()
	pair := [2]int{one, two}
	if slices.Contains(l.Before, pair) {
		return mustCount(t, l)
	}
	more := paired(l, pair)
	if gall.CheckList(more) == api.ErrRule {
		return 0
	}
	return mustCount(t, more)
}
