package edge_test

import (
	"fmt"
	"math"
	"slices"
	"testing"

	"oxgall/api"
	"oxgall/edge"
)

// tell returns all that all functions say of a day, a list, which is a plan or moments, and a book.
func tell(d api.EdgeDay, list []int, book int) string {
	out := fmt.Sprintln(edge.CheckDay(d))
	say := func(x ...any) { out += fmt.Sprintln(x...) }
	before, e := edge.Before(d, book)
	say(before, e)
	fetches, e := edge.Fetches(d, list)
	say(fetches, e)
	kept, e := edge.Kept(d, list)
	say(kept, e)
	bench, e := edge.Bench(d, list, book)
	say(bench, e)
	best, fetches, e := edge.Best(d)
	say(best, fetches, e)
	number, e := edge.CheckMoments(d, list)
	say(number, e)
	moments, e := edge.Moments(d)
	say(moments, e)
	curve, e := edge.Curve(d)
	say(curve, e)
	kind, e := edge.Kind(d, book)
	say(kind, e)
	many, e := edge.Count(d)
	say(many, e)
	return out
}

// R4, R9 and R10: arguments stay as they are, and equal calls return equal results.
func TestAgain(t *testing.T) {
	look := func(dice dice, d api.EdgeDay) {
		best, _ := mustBest(t, d)
		moments, _ := mustMoments(t, d)
		for _, list := range [][]int{best, moments, dice.Perm(1 + dice.IntN(5))} {
			book := dice.IntN(len(d.Books))
			books, was := slices.Clone(d.Books), slices.Clone(list)
			once := tell(d, list, book)
			tell(dice.small(), list, book)
			if again := tell(d, list, book); again != once {
				t.Fatal("not the same again", d, once, again)
			}
			if !slices.Equal(d.Books, books) || !slices.Equal(list, was) {
				t.Fatal("an argument was changed", d, list)
			}
		}
	}
	days(t, look)
	large(t, look)
}

// R4: nothing is written behind the end of an argument.
func TestCapacity(t *testing.T) {
	books := of(0, 1, 2, 0, 1, 2, 0, 77, 88)
	for _, begin := range [][]int{of(-1, -1, 1, -1, 0, -1, 1), of(2, 4)} {
		list := append(slices.Clone(begin), 77, 88)
		if said := tell(day(2, books[:7]...), list[:len(begin)], 3); said != tell(chapterD(), begin, 3) {
			t.Error(said)
		}
		if !slices.Equal(list, append(slices.Clone(begin), 77, 88)) {
			t.Error("an argument was changed", list)
		}
	}
	if !slices.Equal(books, of(0, 1, 2, 0, 1, 2, 0, 77, 88)) {
		t.Error("an argument was changed", books)
	}
}

// R4: what a caller writes into a result, or an argument, changes no other result.
func TestMemory(t *testing.T) {
	d, given := chapterD(), of(-1, -1, 1, -1, 0, -1, 1)
	want := tell(chapterD(), given, 4)
	spoil := func(list []int) {
		list = list[:cap(list)]
		for i := range list {
			list[i] = 7
		}
	}
	results := func() [][]int {
		kept, _ := edge.Kept(d, given)
		bench, _ := edge.Bench(d, given, 4)
		best, _, _ := edge.Best(d)
		moments, _ := edge.Moments(d)
		curve, _ := edge.Curve(d)
		return [][]int{kept, bench, best, moments, curve}
	}
	for _, list := range results() {
		spoil(list)
		if again := tell(d, given, 4); again != want {
			t.Error(again, want)
		}
	}
	before, after := results(), results()
	spoil(d.Books)
	spoil(given)
	if !slices.EqualFunc(before, after, slices.Equal[[]int]) || !slices.Equal(before[0], of(3, 5)) {
		t.Error(before, after)
	}
	for i, list := range before {
		spoil(list)
		after[i] = list
		if !slices.EqualFunc(before, after, slices.Equal[[]int]) {
			t.Error("results share memory", before, after)
		}
	}
}

// R3: an empty list is as a nil one.
func TestEmpty(t *testing.T) {
	if tell(day(1), nil, 0) != tell(api.EdgeDay{Room: 1, Books: of()}, of(), 0) {
		t.Error("nil and empty differ")
	}
	if tell(chapterD(), nil, 3) != tell(chapterD(), of(), 3) {
		t.Error("nil and empty differ")
	}
}

// P1 and R5: every function ends, whatever its arguments are.
func TestAnyNumber(t *testing.T) {
	ends := of(math.MinInt, math.MinInt+1, -8, -2, -1, 0, 1, 2, 3, 4, 5, 7, 8, 23, 24, 25, math.MaxInt-1, math.MaxInt)
	for _, one := range ends {
		for _, two := range ends {
			for _, n := range ends {
				tell(day(n, one, two, 0), of(-1, n, two), one)
				tell(day(2, one, two, n), of(one, n), two)
				tell(day(2, 0, 1, 2, 1), of(-1, one, two, n), n)
			}
			tell(day(one, 0, 1, 2), of(-1, -1, two), two)
			tell(round(4, 24, 8), of(one, two), one)
		}
	}
	for _, d := range []api.EdgeDay{round(4, 24, 8), round(4, 70000, 8), alike(1, 24, 7), alike(4, 70000, 9)} {
		tell(d, make([]int, 70000), 23)
		tell(d, none(70000), 23)
		tell(d, none(24), 23)
	}
}
