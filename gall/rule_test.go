package gall_test

import (
	"fmt"
	"math"
	"slices"
	"testing"

	"oxgall/api"
	"oxgall/gall"
)

// tell returns all that all functions say of a list, some colours or an order, and a block.
func tell(l api.GallList, order []int, b api.GallBlock) string {
	out := fmt.Sprintln(gall.CheckList(l), gall.CheckOrder(l, order), gall.CheckBlock(l, b))
	say := func(x ...any) { out += fmt.Sprintln(x...) }
	for i, one := range append(slices.Clone(order[:min(len(order), 10)]), 0) {
		spread, e := gall.Spread(l, one, i)
		say(spread, e)
		spread, e = gall.Spread(l, 0, one)
		say(spread, e)
		window, e := gall.Window(l, one)
		say(window, e)
		bounds, e := gall.Bounds(l, one)
		say(bounds, e)
		places, e := gall.Places(l, one)
		say(places, e)
		must, e := gall.Must(l, one, 0)
		say(must, e)
		must, e = gall.Must(l, 1, one)
		say(must, e)
	}
	first, e := gall.Order(l)
	say(first, e)
	block, e := gall.Block(l)
	say(block, e)
	count, e := gall.Count(l)
	say(count, e)
	swaps, e := gall.Swaps(l, order)
	say(swaps, e)
	return out
}

// R4, R9 and R10: arguments stay as they are, and equal calls return equal results.
func TestAgain(t *testing.T) {
	listsOf(t, func(d dice, l api.GallList) {
		order, _ := gall.Order(l)
		if len(order) == 0 {
			order = d.Perm(len(l.Colours))
		}
		b := block(0, int64(len(order)-2), order[:1]...)
		list, was, colours := copied(l), slices.Clone(order), slices.Clone(b.Colours)
		once := tell(l, order, b)
		other := d.list(5)
		tell(other, d.Perm(len(other.Colours)), b)
		if again := tell(l, order, b); again != once {
			t.Fatal("not the same again", l, once, again)
		}
		if !sameList(l, list) || !slices.Equal(order, was) || !slices.Equal(b.Colours, colours) {
			t.Fatal("an argument was changed", l, list)
		}
	})
}

// R4: nothing is written behind the end of an argument.
func TestCapacity(t *testing.T) {
	pairs := [][2]int{{0, 1}, {7, 7}, {8, 8}}
	orders := of(0, 1, 2, 7, 8)
	l := free(3)
	l.Before = pairs[:1]
	tell(l, orders[:3], block(0, 1, orders[:2]...))
	if pairs[1] != [2]int{7, 7} || pairs[2] != [2]int{8, 8} || !slices.Equal(orders, of(0, 1, 2, 7, 8)) {
		t.Error("an argument was changed", pairs, orders)
	}
}

// R4: what a caller writes into a result, or an argument, changes no other result.
func TestMemory(t *testing.T) {
	l, order := free(4), of(3, 1, 0, 2)
	want := tell(free(4), of(3, 1, 0, 2), block(0, 1, 0))
	first, _ := gall.Order(l)
	places, _ := gall.Places(l, 2)
	swaps, _ := gall.Swaps(l, order)
	first[0], places[0], swaps[0] = 7, 7, 7
	if again := tell(l, order, block(0, 1, 0)); again != want {
		t.Error(again, want)
	}
	crowd := windowed(from(1, 1), from(1, 1))
	b, _ := gall.Block(crowd)
	b.Colours[0] = 7
	if again, _ := gall.Block(crowd); !sameBlock(again, block(1, 1, 0, 1)) {
		t.Error(again)
	}
}

// R3: an empty list is as a nil one.
func TestEmpty(t *testing.T) {
	for _, l := range []api.GallList{chapterL(), chapterM(), free(2), {Drag: 10}} {
		other := copied(l)
		if len(l.Before) == 0 {
			other.Before = [][2]int{}
		}
		if len(l.Colours) == 0 {
			other.Colours = []api.GallColour{}
		}
		empty := api.GallBlock{Colours: []int{}}
		if tell(l, nil, api.GallBlock{}) != tell(other, []int{}, empty) {
			t.Error("nil and empty differ", l)
		}
	}
}

// P1 and R5: every function ends, whatever its arguments are.
func TestAnyNumber(t *testing.T) {
	ends := []int64{math.MinInt64, math.MinInt64 + 1, -2001, -2000, -1, 0, 1, 9, 10, 100, 101, 1000, 1001, 2000, 2001, math.MaxInt64 - 1, math.MaxInt64}
	for _, one := range ends {
		for _, two := range ends {
			order := of(int(one), int(two))
			b := block(one, two, order...)
			for _, n := range ends {
				tell(list(n, one, two, 0, 1000, 0, 1000, one, two), order, b)
				tell(list(100, n, n, one, two, one, n, n, two), order, b)
				tell(paired(free(2), [2]int{int(one), int(two)}, [2]int{int(n), 0}), order, b)
			}
			tell(chapterL(), order, b)
			tell(alike(10, 100, 0, 1000, 0, 1000), order, b)
			tell(chain(10), append(order, 2, 3), block(one, two, 0, 1, 2, 3, 4, 5, 6, 7, 8, 9))
		}
	}
	for _, l := range []api.GallList{free(10), chain(10), alike(10, 1, 1000, 1000, 0, 0)} {
		tell(l, make([]int, 70000), block(0, 1, make([]int, 70000)...))
		tell(l, of(0, 1, 2, 3, 4, 5, 6, 7, 8, 9), block(0, -1000, 0, 1, 2, 3, 4, 5, 6, 7, 8, 9))
	}
}
