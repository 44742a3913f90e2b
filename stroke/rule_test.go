package stroke_test

import (
	"math"
	"slices"
	"testing"

	"oxgall/api"
	"oxgall/stroke"
)

// answers is what all functions say of a bench and two lists.
type answers struct {
	lists   [][]int
	moves   []api.StrokeMove
	numbers []int64
}

func (a answers) equal(b answers) bool {
	return equalLists(a.lists, b.lists) && slices.Equal(a.moves, b.moves) && slices.Equal(a.numbers, b.numbers)
}

func (a *answers) list(l []int, e api.Errno) {
	a.lists = append(a.lists, l)
	a.numbers = append(a.numbers, int64(e))
}

func (a *answers) number(n int64, e api.Errno) { a.numbers = append(a.numbers, n, int64(e)) }

// ask calls all functions with a bench and two lists.
func ask(b api.StrokeBench, one, two []int, moves []api.StrokeMove) answers {
	var a answers
	a.number(0, stroke.CheckBench(b))
	a.number(0, stroke.CheckList(b, one))
	a.list(stroke.Short(b, one))
	a.number(0, stroke.Same(b, one, two))
	a.number(0, stroke.CheckChain(b, one, two, moves))
	chain, e := stroke.Chain(b, one, two)
	a.moves = chain
	a.number(int64(len(chain)), e)
	a.list(stroke.Firsts(b, one))
	rounds, e := stroke.Rounds(b, one)
	a.number(int64(len(rounds)), e)
	a.lists = append(a.lists, rounds...)
	n, e := stroke.CheckSpine(b, one, two)
	a.number(int64(n), e)
	a.list(stroke.Spine(b, one))
	a.number(stroke.Count(b, one))
	a.list(stroke.Way(b, one, two))
	a.list(stroke.Common(b, one, two))
	return a
}

// R4, R9 and R10: arguments stay as they are, and equal calls return equal results.
func TestAgain(t *testing.T) {
	looks(t, func(d dice, b api.StrokeBench, one, _ []int) {
		two := d.wander(b, one, 20, api.MaxStrokeLong)
		moves, _ := stroke.Chain(b, one, two)
		was := [][]int{slices.Clone(one), slices.Clone(two)}
		cross, before := slices.Clone(b.Cross), slices.Clone(moves)
		a := ask(b, one, two, moves)
		ask(d.bench(8), two, one, moves)
		if !a.equal(ask(b, one, two, moves)) {
			t.Fatal("not the same again", b, one, two)
		}
		if !equalLists(was, [][]int{one, two}) || !slices.Equal(b.Cross, cross) || !slices.Equal(moves, before) {
			t.Fatal("an argument was changed", b, one, two)
		}
	})
}

// R4: what a caller writes into a result, or an argument, changes no other one.
func TestMemory(t *testing.T) {
	b, list := chapterB(), of(1, 4, 3, 2)
	var out [][]int
	keep := func(l []int, _ api.Errno) { out = append(out, l) }
	rounds, _ := stroke.Rounds(b, list)
	out = append(out, rounds...)
	for range 2 {
		keep(stroke.Short(b, list))
		keep(stroke.Firsts(b, list))
		keep(stroke.Spine(b, list))
		keep(stroke.Way(b, list, of(1, 1)))
		keep(stroke.Common(b, list, list))
	}
	var were [][]int
	for _, l := range out {
		were = append(were, slices.Clone(l))
	}
	for i, l := range out {
		_ = append(l, 77)
		for n := range l {
			l[n] = 88
		}
		if !equalLists(out[i+1:], were[i+1:]) || !slices.Equal(list, of(1, 4, 3, 2)) {
			t.Fatal("two lists share memory", i, out, were, list)
		}
	}
}

// R3: an empty list is as a nil one.
func TestEmpty(t *testing.T) {
	none := lines(3)
	empty := api.StrokeBench{Lines: 3, Cross: [][2]int{}}
	for _, l := range [][]int{nil, of(1, -1), of(3, 2, 1)} {
		if !ask(none, l, nil, nil).equal(ask(empty, l, []int{}, []api.StrokeMove{})) || !ask(none, nil, l, nil).equal(ask(empty, []int{}, l, nil)) {
			t.Error("nil and empty differ", l)
		}
	}
}

// P1 and R5: every function ends, whatever its arguments are.
func TestAnyNumber(t *testing.T) {
	ends := []int{math.MinInt, math.MinInt + 1, -9, -8, -1, 0, 1, 2, 8, 9, 60, math.MaxInt}
	var some []api.StrokeBench
	for _, n := range ends {
		some = append(some, lines(n), lines(2, n, 1), lines(2, 0, n), lines(n, 0, 1))
	}
	some = append(some, api.StrokeBench{Lines: 8, Cross: pairs(8)}, chapterB(), lines(8, 0, 7))
	for _, b := range some {
		for _, one := range ends {
			for _, two := range ends {
				ask(b, of(one), of(1, two), chain(api.StrokeMove{Kind: 1, At: one, Stroke: two}))
				ask(b, of(1, -1), of(one, two), chain(api.StrokeMove{Kind: 2, At: one, Stroke: two}))
				ask(b, of(one, two), nil, chain(api.StrokeMove{Kind: 3, At: one, Stroke: two}))
				ask(b, nil, of(one, two), chain(api.StrokeMove{Kind: one, At: two, Stroke: 1}))
			}
		}
		ask(b, make([]int, 5000), make([]int, 5000), make([]api.StrokeMove, 9000))
	}
}
