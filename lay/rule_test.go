package lay_test

import (
	"fmt"
	"math"
	"slices"
	"testing"

	"oxgall/api"
	"oxgall/lay"
)

// tell returns all that all functions say of a sheet, hands, a plan and a number, which is a cell or a turn.
func tell(s api.LaySheet, hands int, plan [][]int, number int) string {
	out := fmt.Sprintln(lay.CheckSheet(s), lay.CheckPlan(s, hands, plan), lay.CheckCrowd(s, hands, number))
	say := func(x ...any) { out += fmt.Sprintln(x...) }
	levels, e := lay.Levels(s)
	say(levels, e)
	last, e := lay.Last(s)
	say(last, e)
	best, e := lay.Plan(s, hands)
	say(best, e)
	crowd, e := lay.Crowd(s, hands)
	say(crowd, e)
	needed, e := lay.Hands(s)
	say(needed, e)
	turns, e := lay.Turns(s, hands)
	say(turns, e)
	early, e := lay.Early(s, hands, number)
	say(early, e)
	rests, e := lay.Rests(s, hands)
	say(rests, e)
	lines, e := lay.Lines(s, plan)
	say(lines, e)
	return out
}

func copiedPlan(plan [][]int) [][]int {
	out := slices.Clone(plan)
	for i, cells := range plan {
		out[i] = slices.Clone(cells)
	}
	return out
}

func samePlan(a, b [][]int) bool { return slices.EqualFunc(a, b, slices.Equal[[]int]) }

// R4, R9 and R10: arguments stay as they are, and equal calls return equal results.
func TestAgain(t *testing.T) {
	look := func(d dice, s api.LaySheet, hands int) {
		at := make([]int, len(s.To))
		for cell := range at {
			at[cell] = 1 + d.IntN(5)
		}
		plan, number := planOf(at), d.IntN(6)
		wasS, wasPlan := copied(s), copiedPlan(plan)
		once := tell(s, hands, plan, number)
		tell(d.small(), 1+d.IntN(3), plan, number)
		if again := tell(s, hands, plan, number); again != once {
			t.Fatal("not the same again", s, once, again)
		}
		if !slices.Equal(s.To, wasS.To) || !slices.Equal(s.Due, wasS.Due) || !samePlan(plan, wasPlan) {
			t.Fatal("an argument was changed", s, plan)
		}
	}
	sheets(t, look)
	large(t, look)
}

// R4: nothing is written behind the end of an argument.
func TestCapacity(t *testing.T) {
	s := sheet(of(1, 2, -1, 77, 88), of(3, 3, 3, 77, 88))
	plan := turns(of(0, 77), of(1, 77), of(2, 77), of(88))
	short := sheet(s.To[:3], s.Due[:3])
	if said := tell(short, 1, turns(plan[0][:1], plan[1][:1], plan[2][:1], plan[3])[:3], 0); said != tell(row(3, 3), 1, turns(of(0), of(1), of(2)), 0) {
		t.Error(said)
	}
	if !slices.Equal(s.To, of(1, 2, -1, 77, 88)) || !slices.Equal(s.Due, of(3, 3, 3, 77, 88)) ||
		!samePlan(plan, turns(of(0, 77), of(1, 77), of(2, 77), of(88))) {
		t.Error("an argument was changed", s, plan)
	}
}

// R4: what a caller writes into a result, or an argument, changes no other result.
func TestMemory(t *testing.T) {
	s, given := chapterS(), turns(of(0, 1), of(3, 4), of(2, 5), of(6))
	want := tell(chapterS(), 2, given, 3)
	levels, _ := lay.Levels(s)
	last, _ := lay.Last(s)
	plan, _ := lay.Plan(s, 2)
	rests, _ := lay.Rests(s, 2)
	lines, _ := lay.Lines(s, given)
	levels[0], last[0], rests[0], lines[0] = 7, 7, 7, 7
	for i, cells := range plan {
		was := copiedPlan(plan)
		for j := range cells[:cap(cells)] {
			cells[:cap(cells)][j] = 7
		}
		was[i] = cells
		if !samePlan(plan, was) {
			t.Error("turns share memory", plan, was)
		}
	}
	if again := tell(s, 2, given, 3); again != want {
		t.Error(again, want)
	}
	levels, _ = lay.Levels(s)
	last, _ = lay.Last(s)
	s.To[0], s.Due[0] = 5, 1
	if !slices.Equal(levels, of(3, 3, 2, 3, 3, 2, 1)) || !slices.Equal(last, of(3, 3, 4, 3, 3, 4, 5)) {
		t.Error(levels, last)
	}
}

// R3: an empty list is as a nil one.
func TestEmpty(t *testing.T) {
	for _, due := range [][]int{nil, of(1)} {
		if tell(sheet(nil, due), 1, nil, 0) != tell(sheet(of(), due), 1, [][]int{}, 0) {
			t.Error("nil and empty differ", due)
		}
	}
	if tell(sheet(of(-1), nil), 1, nil, 0) != tell(sheet(of(-1), of()), 1, [][]int{}, 0) {
		t.Error("nil and empty differ")
	}
	if tell(row(2, 3), 1, turns(of(0), nil, of(1)), 0) != tell(row(2, 3), 1, turns(of(0), of(), of(1)), 0) {
		t.Error("nil and empty differ")
	}
}

// P1 and R5: every function ends, whatever its arguments are.
func TestAnyNumber(t *testing.T) {
	ends := of(math.MinInt, math.MinInt+1, -41, -2, -1, 0, 1, 2, 3, 10, 11, 29, 30, 39, 40, 41, math.MaxInt-1, math.MaxInt)
	for _, one := range ends {
		for _, two := range ends {
			for _, n := range ends {
				tell(sheet(of(one, two, -1), of(n, 40, 2)), 2, turns(of(one, n), of(two)), n)
				tell(sheet(of(1, 2, -1), of(one, two, n)), n, turns(of(0), of(one), of(2, two)), one)
			}
			tell(chapterS(), one, turns(of(two)), two)
			tell(row(30, 40), one, turns(of(one), of(two, 0)), two)
		}
	}
	many := slices.Repeat(turns(make([]int, 70000)), 41)
	for _, s := range []api.LaySheet{row(30, 40), star(30, 40), loose(30, 1), row(30, 1), withTo(row(30, 40), 29, 0), row(70000, 40)} {
		for hands := range api.MaxLayHands + 2 {
			tell(s, hands, many, hands)
			tell(s, hands, many[1:], hands)
			tell(s, hands, make([][]int, 70000), hands)
		}
	}
}
