package drop_test

import (
	"math"
	"slices"
	"testing"

	"oxgall/api"
	"oxgall/drop"
)

func span(lo, hi int64) api.Range { return api.Range{Lo: lo, Hi: hi} }

func spot(x, y int64) api.DropSpot { return api.DropSpot{X: x, Y: y} }

func onto(spot int, lo, hi int64) api.DropDrop {
	return api.DropDrop{Spot: spot, Spread: span(lo, hi)}
}

// chapterB and chapterC are the baths B and C of the chapter's examples.
func chapterB() api.DropBath {
	return api.DropBath{
		Width: 100,
		Spots: []api.DropSpot{spot(20, 50), spot(50, 50), spot(80, 50)},
		Drops: []api.DropDrop{onto(0, 100, 144), onto(1, 225, 400), onto(0, 200, 300), onto(2, 100, 100)},
	}
}

func chapterC() api.DropBath {
	b := chapterB()
	b.Drops = []api.DropDrop{b.Drops[0], b.Drops[3]}
	return b
}

// copied returns a bath that shares no memory with b.
func copied(b api.DropBath) api.DropBath {
	b.Spots, b.Drops = slices.Clone(b.Spots), slices.Clone(b.Drops)
	return b
}

// with returns a bath with one more drop.
func with(b api.DropBath, d api.DropDrop) api.DropBath {
	b = copied(b)
	b.Drops = append(b.Drops, d)
	return b
}

func equalBaths(a, b api.DropBath) bool {
	return a.Width == b.Width && slices.Equal(a.Spots, b.Spots) && slices.Equal(a.Drops, b.Drops)
}

func equalLists(a, b [][]int) bool { return slices.EqualFunc(a, b, slices.Equal[[]int]) }

// dice is a row of numbers that is the same in each run.
type dice uint64

func (d *dice) below(n int64) int64 {
	*d = *d*6364136223846793005 + 1442695040888963407
	return int64(uint64(*d)>>33) % n
}

// somewhere returns a small valid bath, crowded enough that all kinds come up.
func (d *dice) somewhere() api.DropBath {
	b := api.DropBath{Width: 2 + d.below(14)}
	for range d.below(6) {
		s := spot(1+d.below(b.Width-1), d.below(9))
		if !slices.Contains(b.Spots, s) {
			b.Spots = append(b.Spots, s)
		}
	}
	if len(b.Spots) == 0 {
		return b
	}
	for range d.below(7) {
		lo := 1 + d.below(8)
		b.Drops = append(b.Drops, onto(int(d.below(int64(len(b.Spots)))), lo, lo+d.below(3)))
	}
	return b
}

// baths calls a function with many small valid baths.
func baths(t *testing.T, look func(api.DropBath, *dice)) {
	t.Helper()
	d := dice(7)
	for range 400 {
		b := d.somewhere()
		if e := drop.CheckBath(b); e != api.OK {
			t.Fatal("not a valid bath", b, e)
		}
		look(b, &d)
	}
}

// places returns all places of a bath.
func places(b api.DropBath) []int {
	out := []int{api.DropRight, api.DropLeft}
	for i := range b.Spots {
		out = append(out, i)
	}
	return out
}

// pairs calls a function with each two different places.
func pairs(b api.DropBath, look func(one, two int)) {
	for _, one := range places(b) {
		for _, two := range places(b) {
			if one != two {
				look(one, two)
			}
		}
	}
}

// truths calls a function with each truth.
func truths(b api.DropBath, look func(truth []int64)) {
	truth := make([]int64, len(b.Drops))
	var fill func(i int)
	fill = func(i int) {
		if i == len(truth) {
			look(truth)
			return
		}
		for n := b.Drops[i].Spread.Lo; n <= b.Drops[i].Spread.Hi; n++ {
			truth[i] = n
			fill(i + 1)
		}
	}
	fill(0)
}

// touching tells by square roots whether two places touch after the first
// drops of a truth. The numbers of somewhere are so small that sums of roots
// that are not equal differ by far more than 1e-9.
func touching(b api.DropBath, truth []int64, one, two int) bool {
	reach := func(spot int) float64 {
		size := int64(0)
		for i, n := range truth {
			if b.Drops[i].Spot == spot {
				size += n
			}
		}
		return math.Sqrt(float64(size))
	}
	one, two = min(one, two), max(one, two)
	if two < 0 || reach(two) == 0 {
		return false
	}
	switch one {
	case api.DropLeft:
		return reach(two)+1e-9 >= float64(b.Spots[two].X)
	case api.DropRight:
		return reach(two)+1e-9 >= float64(b.Width-b.Spots[two].X)
	}
	far := math.Hypot(float64(b.Spots[one].X-b.Spots[two].X), float64(b.Spots[one].Y-b.Spots[two].Y))
	return reach(one) > 0 && reach(one)+reach(two)+1e-9 >= far
}

// kindOf returns the kind of what holds in so many of all truths.
func kindOf(holds, all int) int {
	switch holds {
	case all:
		return api.DropAlways
	case 0:
		return api.DropNever
	}
	return api.DropMay
}

// mustTouch returns the kind of two places.
func mustTouch(t *testing.T, b api.DropBath, one, two int) int {
	t.Helper()
	k, e := drop.Touch(b, one, two)
	if e != api.OK {
		t.Fatal(b, one, two, e)
	}
	return k
}
