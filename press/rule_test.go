package press_test

import (
	"fmt"
	"math"
	"slices"
	"testing"

	"oxgall/api"
	"oxgall/press"
)

// tell returns all that all functions say of a day, some sheets or an order, and a bound.
func tell(l []api.PressSheet, order []int, b api.PressBound) string {
	out := fmt.Sprintln(press.CheckDay(l))
	say := func(x ...any) { out += fmt.Sprintln(x...) }
	ends, e := press.Ends(l, order)
	say(ends, e)
	end, e := press.End(l, order)
	say(end, e)
	sheet, e := press.Critical(l, order)
	say(sheet, e)
	lines, e := press.Hung(l, order)
	say(lines, e)
	best, end, e := press.Best(l)
	say(best, end, e)
	minute, e := press.CheckBound(l, b)
	say(minute, e)
	bound, e := press.Bound(l)
	say(bound, e)
	count, e := press.Count(l)
	say(count, e)
	for _, one := range append(slices.Clone(order[:min(len(order), 8)]), 0) {
		kind, e := press.Kind(l, one, 1)
		say(kind, e)
		kind, e = press.Kind(l, 0, one)
		say(kind, e)
		spare, e := press.Spare(l, one)
		say(spare, e)
	}
	return out
}

// R4, R9 and R10: arguments stay as they are, and equal calls return equal results.
func TestAgain(t *testing.T) {
	days(t, func(d dice, l []api.PressSheet) {
		order := d.Perm(len(l))
		b := api.PressBound{Sheets: of(order[0]), Front: d.IntN(2) == 0}
		sheets, was, bound := slices.Clone(l), slices.Clone(order), slices.Clone(b.Sheets)
		once := tell(l, order, b)
		other := d.day(5)
		tell(other, d.Perm(len(other)), b)
		if again := tell(l, order, b); again != once {
			t.Fatal("not the same again", l, once, again)
		}
		if !slices.Equal(l, sheets) || !slices.Equal(order, was) || !slices.Equal(b.Sheets, bound) {
			t.Fatal("an argument was changed", l, order, b)
		}
	})
}

// R4: nothing is written behind the end of an argument.
func TestCapacity(t *testing.T) {
	sheets := alike(5, 1, 2, 3)
	orders := of(2, 1, 0, 7, 8)
	sheets[3].Draw, sheets[4].Press = 77, 88
	was := slices.Clone(sheets)
	tell(sheets[:3], orders[:3], front(orders[:1]...))
	if !slices.Equal(sheets, was) || !slices.Equal(orders, of(2, 1, 0, 7, 8)) {
		t.Error("an argument was changed", sheets, orders)
	}
}

// R4: what a caller writes into a result, or an argument, changes no other result.
func TestMemory(t *testing.T) {
	l, order := chapterD(), of(1, 2, 0)
	want := tell(chapterD(), of(1, 2, 0), front(0))
	ends, _ := press.Ends(l, order)
	best, _, _ := press.Best(l)
	bound, _ := press.Bound(l)
	ends[0], best[0], bound.Sheets[0] = 7, 7, 7
	if again := tell(l, order, front(0)); again != want {
		t.Error(again, want)
	}
	best, _, _ = press.Best(l)
	l[0], order[0] = api.PressSheet{}, 7
	if !slices.Equal(best, of(1, 2, 0)) {
		t.Error(best)
	}
}

// R3: an empty list is as a nil one.
func TestEmpty(t *testing.T) {
	for _, l := range [][]api.PressSheet{chapterD(), alike(2, 0, 0, 0), nil} {
		other := l
		if len(l) == 0 {
			other = []api.PressSheet{}
		}
		if tell(l, nil, api.PressBound{}) != tell(other, []int{}, api.PressBound{Sheets: []int{}}) {
			t.Error("nil and empty differ", l)
		}
	}
}

// P1 and R5: every function ends, whatever its arguments are.
func TestAnyNumber(t *testing.T) {
	ends := []int64{math.MinInt64, math.MinInt64 + 1, -1, 0, 1, 2, 7, 8, 63, 64, 1000, 1001, math.MaxInt64 - 1, math.MaxInt64}
	for _, one := range ends {
		for _, two := range ends {
			order := of(int(one), int(two))
			for _, n := range ends {
				tell(day(one, two, n), order, front(order...))
				tell(day(n, 0, 1000, one, n, two), order, back(order...))
			}
			tell(alike(8, 1, 0, 1), order, front(order...))
			tell(chapterD(), append(order, int(one)), back(int(two)))
		}
	}
	for _, l := range [][]api.PressSheet{alike(8, 0, 0, 0), alike(8, 1000, 0, 1000), alike(8, 1000, 1000, 1000)} {
		tell(l, make([]int, 70000), front(make([]int, 70000)...))
		tell(l, of(7, 6, 5, 4, 3, 2, 1, 0), back(0, 1, 2, 3, 4, 5, 6, 7))
	}
	tell(make([]api.PressSheet, 70000), of(0), front(0))
}
