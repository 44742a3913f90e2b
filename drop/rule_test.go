package drop_test

import (
	"math"
	"slices"
	"testing"

	"oxgall/api"
	"oxgall/drop"
)

// answers is what all functions say of a bath.
type answers struct {
	lists   [][]int
	ranges  []api.Range
	numbers []int64
}

func (a answers) equal(b answers) bool {
	return equalLists(a.lists, b.lists) && slices.Equal(a.ranges, b.ranges) && slices.Equal(a.numbers, b.numbers)
}

func (a *answers) list(l []int, e api.Errno) {
	a.lists = append(a.lists, l)
	a.numbers = append(a.numbers, int64(e))
}

func (a *answers) span(r api.Range, e api.Errno) {
	a.ranges = append(a.ranges, r)
	a.numbers = append(a.numbers, int64(e))
}

func (a *answers) number(n int64, e api.Errno) { a.numbers = append(a.numbers, n, int64(e)) }

// ask calls all functions with a bath.
func ask(b api.DropBath, one, two int, list []int) answers {
	var a answers
	a.number(0, drop.CheckBath(b))
	a.span(drop.Size(b, one))
	a.span(drop.First(b, one, two))
	kind, e := drop.Touch(b, one, two)
	a.number(int64(kind), e)
	kind, e = drop.Beside(b, one, two)
	a.number(int64(kind), e)
	a.number(drop.Room(b, one))
	for _, sure := range []bool{true, false} {
		a.number(0, drop.CheckWay(b, list, sure))
		a.list(drop.Way(b, one, two, sure))
		a.number(0, drop.CheckSide(b, one, two, list, sure))
		a.list(drop.Side(b, one, two, sure))
		groups, e := drop.Groups(b, sure)
		a.number(int64(len(groups)), e)
		a.lists = append(a.lists, groups...)
	}
	return a
}

// R4, R9 and R10: arguments stay as they are, and equal calls return equal results.
func TestAgain(t *testing.T) {
	baths(t, func(b api.DropBath, d *dice) {
		before, list := copied(b), places(b)
		pairs(b, func(one, two int) {
			a := ask(b, one, two, list)
			ask(d.somewhere(), two, one, list)
			if !a.equal(ask(b, one, two, list)) {
				t.Fatal("not the same again", b, one, two)
			}
		})
		if !equalBaths(b, before) || !slices.Equal(list, places(b)) {
			t.Fatal("an argument was changed", b, before)
		}
	})
}

// R4: what a caller writes into a result, or an argument, changes no other result.
func TestMemory(t *testing.T) {
	b := chapterB()
	groups, _ := drop.Groups(b, false)
	groups[0] = append(groups[0], 77)
	groups[0][0] = 88
	if !slices.Equal(groups[1], []int{-1, 0, 1, 2}) {
		t.Error("two lists share memory", groups)
	}
	way, _ := drop.Way(b, -1, 2, false)
	side, _ := drop.Side(b, 0, -2, false)
	way[0], side[0], b.Drops[0].Spread.Lo, b.Spots[0].X = 5, 5, 1, 3
	if again, _ := drop.Way(chapterB(), -1, 2, false); !slices.Equal(again, []int{-1, 0, 1, 2}) {
		t.Error(again)
	}
	if again, _ := drop.Side(chapterB(), 0, -2, false); !slices.Equal(again, []int{-1, 0, 1, 2}) {
		t.Error(again)
	}
}

// R3: an empty list is as a nil one.
func TestEmpty(t *testing.T) {
	none := api.DropBath{Width: 9}
	empty := api.DropBath{Width: 9, Spots: []api.DropSpot{}, Drops: []api.DropDrop{}}
	if !ask(none, -1, -2, nil).equal(ask(empty, -1, -2, []int{})) {
		t.Error("nil and empty differ")
	}
}

// P1 and R5: every function ends, whatever its arguments are.
func TestAnyNumber(t *testing.T) {
	ends := []int64{math.MinInt64, -3, -2, -1, 0, 1, 2, 10, 1000, math.MaxInt64}
	var some []api.DropBath
	for _, n := range ends {
		some = append(some,
			api.DropBath{Width: n, Spots: []api.DropSpot{spot(1, 0)}, Drops: []api.DropDrop{onto(0, 1, 1)}},
			api.DropBath{Width: 9, Spots: []api.DropSpot{spot(n, 0)}, Drops: []api.DropDrop{onto(0, 1, 1)}},
			api.DropBath{Width: 9, Spots: []api.DropSpot{spot(1, n)}, Drops: []api.DropDrop{onto(0, 1, 1)}},
			api.DropBath{Width: 9, Spots: []api.DropSpot{spot(1, 0)}, Drops: []api.DropDrop{onto(int(n), 1, 1)}},
			api.DropBath{Width: 9, Spots: []api.DropSpot{spot(1, 0)}, Drops: []api.DropDrop{onto(0, n, 9)}},
			api.DropBath{Width: 9, Spots: []api.DropSpot{spot(1, 0)}, Drops: []api.DropDrop{onto(0, 1, n)}},
		)
	}
	some = append(some, chain(), chapterB())
	for _, b := range some {
		for _, one := range ends {
			for _, two := range ends {
				ask(b, int(one), int(two), []int{int(one), int(two)})
			}
		}
		ask(b, 0, 1, make([]int, 5000))
	}
}
