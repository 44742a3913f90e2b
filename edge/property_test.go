package edge_test

import (
	"slices"
	"testing"

	"oxgall/api"
	"oxgall/edge"
)

// P10.3: just the plans are accepted, of all lists.
func TestAllLists(t *testing.T) {
	plans := 0
	look := func(d api.EdgeDay) {
		each(len(d.Books), -1, 3, func(list []int) {
			fetches, e := edge.Fetches(d, list)
			if !isPlan(d, list) {
				if fetches != 0 || e != api.ErrRule {
					t.Fatal(d, list, fetches, e)
				}
				return
			}
			kept, f := edge.Kept(d, list)
			if e != api.OK || f != api.OK || !slices.Equal(kept, keptOf(d, list)) || fetches != len(list)-len(kept) {
				t.Fatal(d, list, fetches, e, kept, f)
			}
			plans++
		})
	}
	for books := 1; books <= 4; books++ {
		tiny(books, 3, look)
	}
	if plans < 300 {
		t.Error(plans)
	}
}

// P10.3 and P10.9: what plans fetch, keep and have on the bench.
func TestAllPlans(t *testing.T) {
	days(t, func(d dice, day api.EdgeDay) {
		for _, plan := range plansOf(day) {
			fetches, e := edge.Fetches(day, plan)
			kept, f := edge.Kept(day, plan)
			if e != api.OK || f != api.OK || !slices.Equal(kept, keptOf(day, plan)) || fetches+len(kept) != len(day.Books) {
				t.Fatal(day, plan, fetches, e, kept, f)
			}
			if !atMost(day, kept) {
				t.Fatal(day, plan, kept)
			}
			for book, block := range day.Books {
				isKept := slices.Contains(kept, book)
				if isKept && beforeOf(day, book) < 0 || !isKept && book > 0 && day.Books[book-1] == block {
					t.Fatal(day, plan, kept, book)
				}
			}
			book := d.IntN(len(plan))
			bench, e := edge.Bench(day, plan, book)
			if e != api.OK || !slices.Equal(bench, benchOf(day, plan, book+1)) {
				t.Fatal(day, plan, book, bench, e)
			}
		}
	})
}

// P10.4, P10.7 and P10.14: best plans are the best of all, and kinds and ways those of all best ones.
func TestBestOfAll(t *testing.T) {
	may, always, never := 0, 0, 0
	look := func(d api.EdgeDay) {
		ways := waysOf(d, plansOf(d))
		plan, fetches := mustBest(t, d)
		if fetches != len(d.Books)-len(ways[0]) {
			t.Fatal(d, fetches, ways)
		}
		if many := mustCount(t, d); many != int64(len(ways)) {
			t.Fatal(d, many, ways)
		}
		kept := keptOf(d, plan)
		for book := range d.Books {
			kind := mustKind(t, d, book)
			if kind != kindOf(ways, book) {
				t.Fatal(d, book, kind, ways)
			}
			isKept := slices.Contains(kept, book)
			if kind == api.EdgeAlways && isKept || kind == api.EdgeNever && !isKept {
				t.Fatal(d, book, kind, plan)
			}
			switch kind {
			case api.EdgeMay:
				may++
			case api.EdgeAlways:
				always++
			default:
				never++
			}
		}
	}
	days(t, func(_ dice, d api.EdgeDay) { look(d) })
	for books := 1; books <= 5; books++ {
		tiny(books, 3, look)
	}
	tiny(6, 4, look)
	if min(may, always, never) < 500 {
		t.Error(may, always, never)
	}
}

// P10.6: each room has the fetches of a best plan for it.
func TestCurveOfAll(t *testing.T) {
	look := func(d api.EdgeDay) {
		for i, fetches := range mustCurve(t, d) {
			if best := mustFetch(t, day(i+1, d.Books...)); fetches != best {
				t.Fatal(d, i, fetches, best)
			}
		}
	}
	days(t, func(_ dice, d api.EdgeDay) { look(d) })
	large(t, func(_ dice, d api.EdgeDay) { look(d) })
}

// P10.2
func TestBeforeOfAll(t *testing.T) {
	look := func(_ dice, d api.EdgeDay) {
		for book := range d.Books {
			want := beforeOf(d, book)
			before, e := edge.Before(d, book)
			if want < 0 && (before != 0 || e != api.ErrNone) || want >= 0 && (before != want || e != api.OK) {
				t.Fatal(d, book, before, e)
			}
		}
	}
	days(t, look)
	large(t, look)
}

// P10.5 and P10.8: the numbers of all moments, none of them above the fetches of a best plan.
func TestAllMoments(t *testing.T) {
	look := func(d api.EdgeDay) {
		fetches := mustFetch(t, d)
		subsets(len(d.Books), func(moments []int) {
			number, e := edge.CheckMoments(d, moments)
			if e != api.OK || number != numberOf(d, moments) || number > fetches {
				t.Fatal(d, moments, number, e, fetches)
			}
		})
		if moments, number := mustMoments(t, d); number != fetches {
			t.Fatal(d, moments, number, fetches)
		}
	}
	days(t, func(_ dice, d api.EdgeDay) { look(d) })
	tiny(6, 3, look)
}

// P10.5: just strictly increasing lists of books are moments.
func TestAllMomentLists(t *testing.T) {
	for _, d := range []api.EdgeDay{day(2, 0, 1, 0), day(1, 0, 1, 2), day(3, 0, 0, 1)} {
		for length := range 4 {
			each(length, -1, 3, func(list []int) {
				want := api.OK
				for i, moment := range list {
					if moment < 0 || moment > 2 || i > 0 && moment <= list[i-1] {
						want = api.ErrRange
					}
				}
				if number, e := edge.CheckMoments(d, list); e != want || e != api.OK && number != 0 {
					t.Fatal(d, list, number, e)
				}
			})
		}
	}
}

// P10.8, P10.4 and P10.5 for many books: a plan and moments that prove each other.
func TestProofs(t *testing.T) {
	look := func(d api.EdgeDay) {
		moments, number := mustMoments(t, d)
		if fetches := mustFetch(t, d); fetches != number {
			t.Fatal(d, fetches, moments, number)
		}
	}
	for n := range uint64(1000) {
		d := newDice(9000 + n)
		look(d.day(1+d.IntN(4), 10+d.IntN(15), 1+d.IntN(8)))
	}
	for room := 1; room <= api.MaxEdgeRoom; room++ {
		for blocks := 1; blocks <= api.MaxEdgeBlocks; blocks++ {
			look(round(room, api.MaxEdgeBooks, blocks))
		}
	}
}

// P10.9: a plan keeps some books, or more, wherever few of them are parted at each book.
func TestKeepable(t *testing.T) {
	days(t, func(_ dice, d api.EdgeDay) {
		plans := plansOf(d)
		subsets(len(d.Books), func(books []int) {
			isNew := func(book int) bool { return beforeOf(d, book) < 0 }
			keepsAll := func(plan []int) bool {
				kept := keptOf(d, plan)
				isLeft := func(book int) bool { return !slices.Contains(kept, book) }
				return !slices.ContainsFunc(books, isLeft)
			}
			can := !slices.ContainsFunc(books, isNew) && atMost(d, books)
			if len(d.Books) <= 7 && slices.ContainsFunc(plans, keepsAll) != can {
				t.Fatal(d, books, can)
			}
		})
	})
}

// P10.7 and P10.14 for many books: the ways are the greatest sets of which few are parted at each book.
func TestManyWays(t *testing.T) {
	most := 0
	look := func(d api.EdgeDay) {
		plan, fetches := mustBest(t, d)
		ways := keepable(d, len(d.Books)-fetches)
		if many := mustCount(t, d); many != int64(len(ways)) {
			t.Fatal(d, many, len(ways))
		}
		if more := keepable(d, len(d.Books)-fetches+1); len(more) > 0 {
			t.Fatal(d, more)
		}
		most = max(most, len(ways))
		kept := keptOf(d, plan)
		for book := range d.Books {
			kind, isKept := mustKind(t, d, book), slices.Contains(kept, book)
			if kind != kindOf(ways, book) || kind == api.EdgeAlways && isKept || kind == api.EdgeNever && !isKept {
				t.Fatal(d, book, kind)
			}
		}
	}
	large(t, func(_ dice, d api.EdgeDay) { look(d) })
	for room := 1; room <= api.MaxEdgeRoom; room++ {
		for blocks := 1; blocks <= api.MaxEdgeBlocks; blocks++ {
			look(round(room, api.MaxEdgeBooks, blocks))
		}
	}
	if most < 100 {
		t.Error(most)
	}
}

// P10.10: more room.
func TestMoreRoom(t *testing.T) {
	look := func(_ dice, d api.EdgeDay) {
		curve := mustCurve(t, d)
		blocks := slices.Compact(slices.Sorted(slices.Values(d.Books)))
		for i := 1; i < len(curve); i++ {
			saved := curve[i-1] - curve[i]
			if saved < 0 || i > 1 && saved > curve[i-2]-curve[i-1] {
				t.Fatal(d, curve)
			}
		}
		for i, fetches := range curve {
			if i+1 >= len(blocks) && fetches != len(blocks) {
				t.Fatal(d, curve)
			}
		}
	}
	days(t, look)
	large(t, look)
}

// P10.11: one book more at the end.
func TestOneMore(t *testing.T) {
	look := func(_ dice, d api.EdgeDay) {
		if len(d.Books) == api.MaxEdgeBooks {
			return
		}
		fetches := mustFetch(t, d)
		for block := range api.MaxEdgeBlocks {
			more := mustFetch(t, day(d.Room, append(slices.Clone(d.Books), block)...))
			if more != fetches && more != fetches+1 {
				t.Fatal(d, block, fetches, more)
			}
		}
	}
	days(t, look)
	large(t, look)
}

// P10.12: the books in the opposite order.
func TestTurnedRound(t *testing.T) {
	look := func(_ dice, d api.EdgeDay) {
		turned := day(d.Room, slices.Clone(d.Books)...)
		slices.Reverse(turned.Books)
		if mustFetch(t, turned) != mustFetch(t, d) || mustCount(t, turned) != mustCount(t, d) {
			t.Fatal(d)
		}
	}
	days(t, look)
	large(t, look)
}

// P10.13: blocks that are named otherwise.
func TestNamed(t *testing.T) {
	look := func(dice dice, d api.EdgeDay) {
		names := dice.Perm(api.MaxEdgeBlocks)
		other := day(d.Room)
		for _, block := range d.Books {
			other.Books = append(other.Books, names[block])
		}
		if one, two := told(t, d), told(t, other); one != two {
			t.Fatal(d, other, one, two)
		}
	}
	days(t, look)
	large(t, look)
}
