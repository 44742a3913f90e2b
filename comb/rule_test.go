package comb_test

import (
	"math"
	"slices"
	"testing"

	"oxgall/api"
	"oxgall/comb"
)

// answers is what all functions say of a sheet.
type answers struct {
	lists   [][]int
	rows    []api.CombRow
	spaces  []api.CombSpace
	numbers []int64
}

func (a answers) equal(b answers) bool {
	return slices.EqualFunc(a.lists, b.lists, slices.Equal[[]int]) && slices.Equal(a.rows, b.rows) &&
		slices.Equal(a.spaces, b.spaces) && slices.Equal(a.numbers, b.numbers)
}

func (a *answers) list(l []int, e api.Errno) {
	a.lists = append(a.lists, l)
	a.numbers = append(a.numbers, int64(e))
}

func (a *answers) number(n int64, e api.Errno) { a.numbers = append(a.numbers, n, int64(e)) }

// ask calls all functions with a sheet.
func ask(s api.CombSheet, rows []api.CombRow, list []int) answers {
	var a answers
	a.number(0, comb.CheckSheet(s))
	for _, r := range rows {
		a.list(comb.Has(s, r))
		places, e := comb.Places(s, r.Comb)
		a.number(int64(len(places)), e)
		a.numbers = append(a.numbers, places...)
		kind, e := comb.Kind(s, r)
		a.number(int64(kind), e)
	}
	a.list(comb.Lost(s))
	a.number(0, comb.CheckRows(s, rows))
	best, e := comb.Best(s)
	a.rows = best
	a.number(0, e)
	a.number(0, comb.CheckApart(s, list))
	a.list(comb.Apart(s))
	a.number(comb.Count(s))
	spaces, e := comb.Spaces(s.Marks)
	a.spaces = spaces
	a.number(0, e)
	return a
}

// R4, R9 and R10: arguments stay as they are, and equal calls return equal results.
func TestAgain(t *testing.T) {
	sheets(t, func(d dice, s api.CombSheet) {
		rows := append(allRows(s), at(0, 3))
		slices.Reverse(rows)
		list := of(0, len(s.Marks)-1)
		before, were, was := copied(s), slices.Clone(rows), slices.Clone(list)
		a := ask(s, rows, list)
		ask(d.sheet(), rows, list)
		if !a.equal(ask(s, rows, list)) {
			t.Fatal("not the same again", s)
		}
		if !equalSheets(s, before) || !slices.Equal(rows, were) || !slices.Equal(list, was) {
			t.Fatal("an argument was changed", s, before)
		}
	})
}

// R4: what a caller writes into a result, or an argument, changes no other result.
func TestMemory(t *testing.T) {
	s := chapterS()
	has, _ := comb.Has(s, at(0, 5))
	places, _ := comb.Places(s, 0)
	best, _ := comb.Best(s)
	apart, _ := comb.Apart(s)
	spaces, _ := comb.Spaces(s.Marks[:2])
	lost, _ := comb.Lost(chapterT())
	has[0], places[0], best[0], apart[0], spaces[0].Space, lost[0] = 7, 7, at(7, 7), 7, 7, 7
	s.Combs[0].Space, s.Marks[0].Lo = 9, 4
	want := ask(chapterS(), ats(0, 5, 1, 20), of(0, 4))
	if !slices.Equal(want.lists[0], of(0, 1, 3)) || !slices.Equal(want.lists[len(want.lists)-1], of(0, 4)) || len(want.rows) != 2 {
		t.Error(want)
	}
	if l, _ := comb.Lost(chapterT()); !slices.Equal(l, of(2)) {
		t.Error(l)
	}
}

// R3: an empty list is as a nil one.
func TestEmpty(t *testing.T) {
	for _, s := range []api.CombSheet{chapterS(), chapterT()} {
		if !ask(s, nil, nil).equal(ask(s, []api.CombRow{}, []int{})) {
			t.Error("nil and empty differ", s)
		}
	}
	empty := api.CombSheet{Combs: []api.CombKind{}, Marks: []api.Range{}}
	if !ask(api.CombSheet{}, nil, nil).equal(ask(empty, []api.CombRow{}, []int{})) {
		t.Error("nil and empty differ")
	}
}

// P1 and R5: every function ends, whatever its arguments are.
func TestAnyNumber(t *testing.T) {
	ends := []int64{math.MinInt64, math.MinInt64 + 1, -3, -1, 0, 1, 2, 4, 8, 12, 20, 50, 499, 500, 501, math.MaxInt64 - 1, math.MaxInt64}
	var some []api.CombSheet
	for _, n := range ends {
		some = append(some,
			api.CombSheet{Combs: kinds(n, 2), Marks: spans(5, 6)},
			api.CombSheet{Combs: kinds(1, n), Marks: spans(5, 6)},
			api.CombSheet{Combs: kinds(1, 2), Marks: spans(n, 6)},
			api.CombSheet{Combs: kinds(1, 2), Marks: spans(5, n)},
			api.CombSheet{Combs: kinds(1, 2), Marks: spans(5, 6, n, n)},
		)
	}
	some = append(some, chapterS(), chapterT(), crowd(8, 12, 3))
	for _, s := range some {
		for _, one := range ends {
			for _, two := range ends {
				ask(s, []api.CombRow{at(int(one), two)}, of(int(one), int(two)))
			}
		}
		ask(s, make([]api.CombRow, 50), make([]int, 5000))
	}
	for _, one := range ends {
		for _, two := range ends {
			for _, p := range ends {
				comb.Meet(one, two, p, 0)
				comb.Meet(one, two, 500, p)
				comb.Meet(one, 50, p, two)
			}
		}
	}
}
