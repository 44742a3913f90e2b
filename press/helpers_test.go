package press_test

import (
	"math/rand/v2"
	"slices"
	"testing"

	"oxgall/api"
	"oxgall/lists"
	"oxgall/press"
)

// day returns sheets: of each its Draw, its Dry and its Press.
func day(numbers ...int64) []api.PressSheet {
	var l []api.PressSheet
	for i := 0; i < len(numbers); i += 3 {
		l = append(l, api.PressSheet{Draw: numbers[i], Dry: numbers[i+1], Press: numbers[i+2]})
	}
	return l
}

// alike returns n sheets that are all the same.
func alike(n int, draw, dry, press int64) []api.PressSheet {
	return day(slices.Repeat([]int64{draw, dry, press}, n)...)
}

// chapterD is the day D of the chapter's examples.
func chapterD() []api.PressSheet { return day(3, 10, 2, 5, 4, 6, 2, 8, 7) }

func of(l ...int) []int { return l }

func minutes(l ...int64) []int64 { return l }

func front(sheets ...int) api.PressBound { return api.PressBound{Sheets: sheets, Front: true} }
func back(sheets ...int) api.PressBound  { return api.PressBound{Sheets: sheets} }

// watched is what is seen of an order that is done minute by minute.
type watched struct {
	ends  []int64
	lines int  // the most sheets that hang at the same minute
	hangs bool // some sheet does not go into the press as soon as it leaves the bath
}

// watch does an order minute by minute.
func watch(l []api.PressSheet, order []int) watched {
	var w watched
	left := map[int]int64{} // the sheets that hang, and since when
	next, drawn, pressed := 0, int64(0), int64(0)
	for minute := int64(0); len(w.ends) < len(order); minute++ {
		for next < len(order) && minute == drawn+l[order[next]].Draw {
			left[order[next]], drawn = minute, minute
			next++
		}
		for len(w.ends) < len(order) && minute >= pressed {
			sheet := order[len(w.ends)]
			since, hangs := left[sheet]
			if !hangs || minute < since+l[sheet].Dry {
				break
			}
			delete(left, sheet)
			w.hangs = w.hangs || minute > since
			pressed = minute + l[sheet].Press
			w.ends = append(w.ends, pressed)
		}
		w.lines = max(w.lines, len(left))
	}
	return w
}

// rows returns the rows through all sheets of an order, one behind another.
func rows(l []api.PressSheet, order []int) []int64 {
	var out []int64
	for place, sheet := range order {
		row := l[sheet].Dry
		for _, other := range order[:place+1] {
			row += l[other].Draw
		}
		for _, other := range order[place:] {
			row += l[other].Press
		}
		out = append(out, row)
	}
	return out
}

// ending returns when an order ends, by its longest row.
func ending(l []api.PressSheet, order []int) int64 { return slices.Max(rows(l, order)) }

// orders calls a function with all orders of n sheets, in lexicographic order.
func orders(n int, look func(order []int)) {
	for order := range lists.Orders(n, func([]int) bool { return true }) {
		look(order)
	}
}

// allBest returns all best orders, in lexicographic order, and when they end.
func allBest(l []api.PressSheet) ([][]int, int64) {
	var best [][]int
	least := int64(0)
	orders(len(l), func(order []int) {
		end := ending(l, order)
		if best == nil || end < least {
			best, least = nil, end
		}
		if end == least {
			best = append(best, order)
		}
	})
	return best, least
}

// kindOf returns the kind of two sheets by all best orders.
func kindOf(best [][]int, one, two int) int {
	n := 0
	for _, order := range best {
		if slices.Index(order, one) < slices.Index(order, two) {
			n++
		}
	}
	switch n {
	case 0:
		return api.PressNever
	case len(best):
		return api.PressAlways
	}
	return api.PressMay
}

// longer returns a day on which a sheet has to hang so much longer.
func longer(l []api.PressSheet, sheet int, more int64) []api.PressSheet {
	l = slices.Clone(l)
	l[sheet].Dry += more
	return l
}

// spareOf returns the spare of a sheet, minute by minute.
func spareOf(l []api.PressSheet, sheet int) int64 {
	_, end := allBest(l)
	for more := int64(1); ; more++ {
		if _, later := allBest(longer(l, sheet, more)); later != end {
			return more - 1
		}
	}
}

// bounds calls a function with all bounds of a day.
func bounds(l []api.PressSheet, look func(b api.PressBound)) {
	for bits := 1; bits < 1<<len(l); bits++ {
		var sheets []int
		for sheet := range l {
			if bits>>sheet&1 == 1 {
				sheets = append(sheets, sheet)
			}
		}
		look(front(sheets...))
		look(back(sheets...))
	}
}

// minuteOf returns the minute of a bound as it is defined.
func minuteOf(l []api.PressSheet, b api.PressBound) int64 {
	var sum int64
	var least []int64
	for sheet, s := range l {
		switch {
		case !slices.Contains(b.Sheets, sheet):
			sum += min(s.Draw, s.Press)
		case b.Front:
			sum += s.Press
			least = append(least, s.Draw+s.Dry)
		default:
			sum += s.Draw
			least = append(least, s.Dry+s.Press)
		}
	}
	return sum + slices.Min(least)
}

// turned returns a day with Draw and Press of each sheet exchanged.
func turned(l []api.PressSheet) []api.PressSheet {
	l = slices.Clone(l)
	for i, s := range l {
		l[i].Draw, l[i].Press = s.Press, s.Draw
	}
	return l
}

// dice makes days, the same in each run.
type dice struct{ *rand.Rand }

func newDice(n uint64) dice { return dice{rand.New(rand.NewPCG(n, 6))} }

// sheet returns a sheet whose works take at most so many minutes.
func (d dice) sheet(most int64) api.PressSheet {
	work := func() int64 { return d.Int64N(most + 1) }
	s := api.PressSheet{Draw: work(), Dry: work(), Press: work()}
	switch d.IntN(8) {
	case 0:
		s.Dry = 0
	case 1:
		s.Press = s.Draw
	case 2:
		s.Draw, s.Press = s.Draw/4, s.Press/4
	}
	return s
}

// day returns a day with at most so many sheets. Few minutes make that several orders are best.
func (d dice) day(sheets int) []api.PressSheet {
	most := []int64{1, 2, 5, 9, 20}[d.IntN(5)]
	var l []api.PressSheet
	for range 1 + d.IntN(sheets) {
		l = append(l, d.sheet(most))
	}
	return l
}

// days calls a function with many days of a few sheets, and some that are not made by dice.
func days(t *testing.T, look func(d dice, l []api.PressSheet)) {
	t.Helper()
	for i, l := range [][]api.PressSheet{
		chapterD(), turned(chapterD()), alike(1, 0, 0, 0), alike(4, 0, 0, 0), alike(4, 2, 3, 2), alike(5, 1, 0, 2),
		day(0, 9, 0, 9, 0, 9, 0, 0, 9), day(4, 0, 0, 0, 4, 0, 0, 0, 4), day(1, 7, 5, 5, 7, 1, 3, 0, 3, 3, 0, 3),
		day(1, 1, 2, 2, 1, 1, 1, 2, 1, 2, 2, 2), day(0, 40, 0, 3, 2, 1, 1, 2, 3),
	} {
		look(newDice(uint64(1000+i)), l)
	}
	for n := range uint64(400) {
		d := newDice(n)
		l := d.day(5)
		if e := press.CheckDay(l); e != api.OK {
			t.Fatal("not a valid day", l, e)
		}
		look(d, l)
	}
}

// tiny calls a function with all days of at most so many sheets whose works take at most so many minutes.
func tiny(sheets int, most int64, look func(l []api.PressSheet)) {
	var grow func(l []api.PressSheet)
	grow = func(l []api.PressSheet) {
		if len(l) > 0 {
			look(l)
		}
		if len(l) == sheets {
			return
		}
		for draw := range most + 1 {
			for dry := range most + 1 {
				for press := range most + 1 {
					grow(append(slices.Clone(l), api.PressSheet{Draw: draw, Dry: dry, Press: press}))
				}
			}
		}
	}
	grow(nil)
}

func mustEnd(t *testing.T, l []api.PressSheet, order []int) int64 {
	t.Helper()
	end, e := press.End(l, order)
	if e != api.OK {
		t.Fatal(l, order, e)
	}
	return end
}

func mustBest(t *testing.T, l []api.PressSheet) ([]int, int64) {
	t.Helper()
	order, end, e := press.Best(l)
	if e != api.OK {
		t.Fatal(l, e)
	}
	return order, end
}

func mustBound(t *testing.T, l []api.PressSheet) api.PressBound {
	t.Helper()
	b, e := press.Bound(l)
	if e != api.OK {
		t.Fatal(l, e)
	}
	return b
}

func mustMinute(t *testing.T, l []api.PressSheet, b api.PressBound) int64 {
	t.Helper()
	minute, e := press.CheckBound(l, b)
	if e != api.OK {
		t.Fatal(l, b, e)
	}
	return minute
}

func mustKind(t *testing.T, l []api.PressSheet, one, two int) int {
	t.Helper()
	kind, e := press.Kind(l, one, two)
	if e != api.OK {
		t.Fatal(l, one, two, e)
	}
	return kind
}

func mustCount(t *testing.T, l []api.PressSheet) int {
	t.Helper()
	n, e := press.Count(l)
	if e != api.OK {
		t.Fatal(l, e)
	}
	return n
}

func mustSpare(t *testing.T, l []api.PressSheet, sheet int) int64 {
	t.Helper()
	spare, e := press.Spare(l, sheet)
	if e != api.OK {
		t.Fatal(l, sheet, e)
	}
	return spare
}

func mustLines(t *testing.T, l []api.PressSheet, order []int) int {
	t.Helper()
	lines, e := press.Hung(l, order)
	if e != api.OK {
		t.Fatal(l, order, e)
	}
	return lines
}
