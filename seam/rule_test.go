package seam_test

import (
	"fmt"
	"math"
	"slices"
	"testing"

	"oxgall/api"
	"oxgall/seam"
)

// tell returns all that all functions say of a set and a list.
func tell(s api.SeamSet, list []int) string {
	out := fmt.Sprintln(seam.CheckSet(s), seam.Continues(s, list), seam.CheckApart(s, list))
	say := func(x ...any) { out += fmt.Sprintln(x...) }
	rounds, e := seam.CheckOrder(s, list)
	say(rounds, e)
	wastes, e := seam.Waste(s, list)
	say(wastes, e)
	for _, one := range append(slices.Clone(list[:min(len(list), 8)]), 0) {
		over, e := seam.Over(s, int64(one))
		say(over, e)
		kind, e := seam.Kind(s, one, 1)
		say(kind, e)
		kind, e = seam.Kind(s, 0, one)
		say(kind, e)
	}
	peak, place, e := seam.Peak(s)
	say(peak, place, e)
	best, rounds, e := seam.Best(s)
	say(best, rounds, e)
	apart, e := seam.Apart(s)
	say(apart, e)
	groups, e := seam.Groups(s)
	say(groups, e)
	count, e := seam.Count(s)
	say(count, e)
	var longs []int64
	for _, p := range s.Parts {
		longs = append(longs, p.Long)
	}
	side, e := seam.Side(s.Period, int64(len(list)), longs)
	say(side, e)
	return out
}

// R4, R9 and R10: arguments stay as they are, and equal calls return equal results.
func TestAgain(t *testing.T) {
	sets(t, func(d dice, s api.SeamSet) {
		list := d.Perm(len(s.Parts))
		before, was := copied(s), slices.Clone(list)
		once := tell(s, list)
		tell(d.set(), list)
		if again := tell(s, list); again != once {
			t.Fatal("not the same again", s, once, again)
		}
		if s.Period != before.Period || !slices.Equal(s.Parts, before.Parts) || !slices.Equal(list, was) {
			t.Fatal("an argument was changed", s, before)
		}
	})
	longs := []int64{5, 8, 3}
	if seam.Side(10, 7, longs); !slices.Equal(longs, []int64{5, 8, 3}) {
		t.Error("an argument was changed", longs)
	}
}

// R4: what a caller writes into a result, or an argument, changes no other result.
func TestMemory(t *testing.T) {
	s, order := rings(3), parts(0, 2, 1)
	want := tell(rings(3), order)
	best, _, _ := seam.Best(s)
	apart, _ := seam.Apart(s)
	groups, _ := seam.Groups(s)
	wastes, _ := seam.Waste(s, order)
	groups[0] = append(groups[0], 7)
	groups[1][0], best[0], apart[0], wastes[0] = 7, 7, 7, 7
	if groups[2][0] != 2 || groups[0][0] != 0 || !slices.Equal(order, parts(0, 2, 1)) {
		t.Error("two results share memory", groups, order)
	}
	s.Parts[0].Long = 1
	if again := tell(rings(3), order); again != want {
		t.Error(again, want)
	}
	longs := []int64{5, 8, 3}
	side, _ := seam.Side(10, 7, longs)
	longs[0] = 9
	if side.Parts[0].Long != 5 {
		t.Error("a result shares memory with an argument", side)
	}
}

// R3: an empty list is as a nil one.
func TestEmpty(t *testing.T) {
	for _, s := range []api.SeamSet{chapterT(), chapterU(), {Period: 10}} {
		if tell(s, nil) != tell(s, []int{}) {
			t.Error("nil and empty differ", s)
		}
	}
	if tell(api.SeamSet{Period: 10}, nil) != tell(api.SeamSet{Period: 10, Parts: []api.SeamPart{}}, nil) {
		t.Error("nil and empty differ")
	}
	if _, e := seam.Side(10, 0, []int64{}); e != api.ErrMany {
		t.Error(e)
	}
}

// P1 and R5: every function ends, whatever its arguments are.
func TestAnyNumber(t *testing.T) {
	ends := []int64{math.MinInt64, math.MinInt64 + 1, -2, -1, 0, 1, 2, 7, 999, 1000, 1001, 10000, 10001, math.MaxInt64 - 1, math.MaxInt64}
	for _, one := range ends {
		for _, two := range ends {
			list := parts(int(one), int(two))
			for _, n := range ends {
				tell(set(n, one, two, 0, 1), list)
				tell(set(1000, one, two, n, 5), list)
				seam.Side(n, one, []int64{two, 1, n})
			}
			tell(chapterT(), list)
			tell(set(1000, 0, 10000, 999, 9999, 500, 1), list)
		}
	}
	for _, s := range []api.SeamSet{alike(1000, 8, 999, 10000), alike(1, 8, 0, 1), rings(8)} {
		tell(s, make([]int, 70000))
		tell(s, parts(0, 1, 2, 3, 4, 5, 6, 7))
	}
}
