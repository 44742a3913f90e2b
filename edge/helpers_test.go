package edge_test

import (
	"fmt"
	"math/rand/v2"
	"slices"
	"testing"

	"oxgall/api"
	"oxgall/edge"
)

func of(l ...int) []int { return l }

func day(room int, books ...int) api.EdgeDay { return api.EdgeDay{Room: room, Books: books} }

// chapterD is the day of the chapter's examples.
func chapterD() api.EdgeDay { return day(2, 0, 1, 2, 0, 1, 2, 0) }

// round returns a day of many books that come to so many blocks in turn.
func round(room, books, blocks int) api.EdgeDay {
	d := day(room)
	for book := range books {
		d.Books = append(d.Books, book%blocks)
	}
	return d
}

// alike returns a day of many books with one block.
func alike(room, books, block int) api.EdgeDay {
	return day(room, slices.Repeat(of(block), books)...)
}

// none returns a plan that puts nothing back.
func none(books int) []int { return slices.Repeat(of(-1), books) }

// beforeOf returns the last book before a book with the same block, or -1.
func beforeOf(d api.EdgeDay, book int) int {
	for other := book - 1; other >= 0; other-- {
		if d.Books[other] == d.Books[book] {
			return other
		}
	}
	return -1
}

// lying tells whether a block lies on the bench behind so many books: a book with it
// was dipped, and it was not put back behind the last one of these.
func lying(d api.EdgeDay, plan []int, dipped, block int) bool {
	for book := dipped - 1; book >= 0; book-- {
		if d.Books[book] == block {
			return true
		}
		if plan[book] == block {
			return false
		}
	}
	return false
}

// benchOf returns the blocks that lie on the bench behind so many books.
func benchOf(d api.EdgeDay, plan []int, dipped int) []int {
	var bench []int
	for block := range api.MaxEdgeBlocks {
		if lying(d, plan, dipped, block) {
			bench = append(bench, block)
		}
	}
	return bench
}

// choices returns what a plan can put back before the next book, if it began so.
func choices(d api.EdgeDay, begin []int) []int {
	bench := benchOf(d, begin, len(begin))
	if slices.Contains(bench, d.Books[len(begin)]) || len(bench) < d.Room {
		return of(-1)
	}
	return bench
}

// isPlan tells whether a list is a plan.
func isPlan(d api.EdgeDay, list []int) bool {
	for book, back := range list {
		if !slices.Contains(choices(d, list[:book]), back) {
			return false
		}
	}
	return len(list) == len(d.Books)
}

// keptOf returns the books that a plan keeps.
func keptOf(d api.EdgeDay, plan []int) []int {
	var kept []int
	for book, block := range d.Books {
		if lying(d, plan, book, block) {
			kept = append(kept, book)
		}
	}
	return kept
}

// plansOf returns all plans of a day.
func plansOf(d api.EdgeDay) [][]int {
	var plans [][]int
	var grow func(begin []int)
	grow = func(begin []int) {
		if len(begin) == len(d.Books) {
			plans = append(plans, slices.Clone(begin))
			return
		}
		for _, back := range choices(d, begin) {
			grow(append(slices.Clone(begin), back))
		}
	}
	grow(nil)
	return plans
}

// waysOf returns what the best ones of some plans keep, each such list once.
func waysOf(d api.EdgeDay, plans [][]int) [][]int {
	var ways [][]int
	for _, plan := range plans {
		kept := keptOf(d, plan)
		if len(ways) > 0 && len(kept) > len(ways[0]) {
			ways = nil
		}
		isSame := func(way []int) bool { return slices.Equal(way, kept) }
		if len(ways) == 0 || len(kept) == len(ways[0]) && !slices.ContainsFunc(ways, isSame) {
			ways = append(ways, kept)
		}
	}
	return ways
}

// isParted tells whether one of some moments parts a book.
func isParted(d api.EdgeDay, book int, moments ...int) bool {
	before := beforeOf(d, book)
	isBetween := func(moment int) bool { return before < moment && moment < book }
	return before >= 0 && slices.ContainsFunc(moments, isBetween)
}

// numberOf returns the number of moments.
func numberOf(d api.EdgeDay, moments []int) int {
	number := 0
	for book := range d.Books {
		if beforeOf(d, book) < 0 || isParted(d, book, moments...) {
			number++
		}
	}
	return number - (d.Room-1)*len(moments)
}

// keepable returns all lists of so many books of which at most Room - 1 are parted at each book.
func keepable(d api.EdgeDay, many int) [][]int {
	var all [][]int
	var grow func(kept []int, book int)
	grow = func(kept []int, book int) {
		if len(kept) == many {
			all = append(all, slices.Clone(kept))
			return
		}
		if many-len(kept) > len(d.Books)-book {
			return
		}
		if beforeOf(d, book) >= 0 {
			if more := append(slices.Clone(kept), book); atMost(d, more) {
				grow(more, book+1)
			}
		}
		grow(kept, book+1)
	}
	grow(nil, 0)
	return all
}

// atMost tells whether at most Room - 1 of some books are parted at each book.
func atMost(d api.EdgeDay, kept []int) bool {
	for moment := range d.Books {
		many := 0
		for _, book := range kept {
			if isParted(d, book, moment) {
				many++
			}
		}
		if many > d.Room-1 {
			return false
		}
	}
	return true
}

// kindOf returns the kind of a book if all ways of best plans are known.
func kindOf(ways [][]int, book int) int {
	kept := 0
	for _, way := range ways {
		if slices.Contains(way, book) {
			kept++
		}
	}
	switch kept {
	case 0:
		return api.EdgeAlways
	case len(ways):
		return api.EdgeNever
	}
	return api.EdgeMay
}

// dice makes days, the same in each run.
type dice struct{ *rand.Rand }

func newDice(n uint64) dice { return dice{rand.New(rand.NewPCG(n, 10))} }

// day returns a day of so many books with so many different blocks at most.
func (d dice) day(room, books, blocks int) api.EdgeDay {
	name := d.Perm(api.MaxEdgeBlocks)
	near := 1 + d.IntN(blocks)
	out := day(room)
	for range books {
		block := d.IntN(blocks)
		if d.IntN(3) == 0 {
			block = d.IntN(near)
		}
		out.Books = append(out.Books, name[block])
	}
	return out
}

// small returns a day of a few books.
func (d dice) small() api.EdgeDay { return d.day(1+d.IntN(4), 1+d.IntN(9), 1+d.IntN(6)) }

// days calls a function with many small days.
func days(t *testing.T, look func(d dice, day api.EdgeDay)) {
	t.Helper()
	for n := range uint64(500) {
		d := newDice(n)
		one := d.small()
		if e := edge.CheckDay(one); e != api.OK {
			t.Fatal("not a valid day", one, e)
		}
		look(d, one)
	}
}

// each calls a function with all lists of a length with numbers from low to high.
func each(length, low, high int, look func(list []int)) {
	list := make([]int, length)
	var grow func(i int)
	grow = func(i int) {
		if i == length {
			look(slices.Clone(list))
			return
		}
		for n := low; n <= high; n++ {
			list[i] = n
			grow(i + 1)
		}
	}
	grow(0)
}

// tiny calls a function with all days of so many books and blocks, for each room.
func tiny(books, blocks int, look func(d api.EdgeDay)) {
	each(books, 0, blocks-1, func(list []int) {
		for room := range api.MaxEdgeRoom {
			look(day(room+1, list...))
		}
	})
}

// large calls a function with days of many books.
func large(t *testing.T, look func(d dice, day api.EdgeDay)) {
	t.Helper()
	for n := range uint64(150) {
		d := newDice(5000 + n)
		one := d.day(1+d.IntN(4), 12+d.IntN(13), 3+d.IntN(6))
		if e := edge.CheckDay(one); e != api.OK {
			t.Fatal("not a valid day", one, e)
		}
		look(d, one)
	}
}

// subsets calls a function with all strictly increasing lists of books.
func subsets(books int, look func(list []int)) {
	for marks := range 1 << books {
		var list []int
		for book := range books {
			if marks>>book&1 == 1 {
				list = append(list, book)
			}
		}
		look(list)
	}
}

// mustBest returns a best plan and its fetches, if it is a plan and has so many.
func mustBest(t *testing.T, d api.EdgeDay) ([]int, int) {
	t.Helper()
	plan, fetches, e := edge.Best(d)
	if e != api.OK || !isPlan(d, plan) || len(d.Books)-len(keptOf(d, plan)) != fetches {
		t.Fatal(d, plan, fetches, e)
	}
	return plan, fetches
}

func mustFetch(t *testing.T, d api.EdgeDay) int {
	t.Helper()
	_, fetches := mustBest(t, d)
	return fetches
}

// mustMoments returns moments with their number, if they are moments with this number.
func mustMoments(t *testing.T, d api.EdgeDay) ([]int, int) {
	t.Helper()
	moments, e := edge.Moments(d)
	if e != api.OK {
		t.Fatal(d, e)
	}
	number, e := edge.CheckMoments(d, moments)
	if e != api.OK || number != numberOf(d, moments) {
		t.Fatal(d, moments, number, e)
	}
	return moments, number
}

func mustCurve(t *testing.T, d api.EdgeDay) []int {
	t.Helper()
	curve, e := edge.Curve(d)
	if e != api.OK || len(curve) != api.MaxEdgeRoom {
		t.Fatal(d, curve, e)
	}
	return curve
}

func mustKind(t *testing.T, d api.EdgeDay, book int) int {
	t.Helper()
	kind, e := edge.Kind(d, book)
	if e != api.OK {
		t.Fatal(d, book, e)
	}
	return kind
}

func mustCount(t *testing.T, d api.EdgeDay) int64 {
	t.Helper()
	many, e := edge.Count(d)
	if e != api.OK {
		t.Fatal(d, e)
	}
	return many
}

// told returns all that is told of a day whatever its blocks are named.
func told(t *testing.T, d api.EdgeDay) string {
	t.Helper()
	out := fmt.Sprintln(mustFetch(t, d), mustCurve(t, d), mustCount(t, d))
	for book := range d.Books {
		out += fmt.Sprintln(mustKind(t, d, book))
	}
	return out
}
