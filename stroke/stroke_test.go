package stroke_test

import (
	"math"
	"slices"
	"testing"

	"oxgall/api"
	"oxgall/stroke"
)

// P2.1
func TestCheckBench(t *testing.T) {
	whole := api.StrokeBench{Lines: 8, Cross: pairs(8)}
	for i, x := range []struct {
		b api.StrokeBench
		e api.Errno
	}{
		{chapterB(), api.OK},
		{lines(1), api.OK},
		{lines(8), api.OK},
		{whole, api.OK},
		{lines(4, 2, 3, 0, 1, 0, 3), api.OK}, // in any order
		{lines(0), api.ErrMany},
		{lines(9), api.ErrMany},
		{lines(-1), api.ErrMany},
		{lines(math.MinInt), api.ErrMany},
		{lines(math.MaxInt), api.ErrMany},
		{api.StrokeBench{Lines: 8, Cross: append(pairs(8), [2]int{0, 1})}, api.ErrMany},
		{api.StrokeBench{Lines: 8, Cross: append(pairs(8)[1:], [2]int{1, 2})}, api.ErrArg},
		{api.StrokeBench{Lines: 8, Cross: make([][2]int, 29)}, api.ErrMany},
		{api.StrokeBench{Lines: 8, Cross: make([][2]int, 28)}, api.ErrArg},
		{lines(4, 1, 0), api.ErrArg},
		{lines(4, 1, 1), api.ErrArg},
		{lines(4, 3, 4), api.ErrArg},
		{lines(4, 2, 3, -1, 0), api.ErrArg},
		{lines(4, 0, 1, 1, 2, 0, 1), api.ErrArg},
		{lines(1, 0, 1), api.ErrArg},
		{lines(4, 0, math.MaxInt), api.ErrArg},
		{lines(4, math.MinInt, math.MaxInt), api.ErrArg},
		// of several errors the one that is named first
		{lines(0, 1, 0), api.ErrMany},
		{lines(9, 1, 0), api.ErrMany},
	} {
		if e := stroke.CheckBench(x.b); e != x.e {
			t.Error(i, e, x.e)
		}
	}
}

// P2.1
func TestCheckList(t *testing.T) {
	for i, x := range []struct {
		b api.StrokeBench
		l []int
		e api.Errno
	}{
		{chapterB(), nil, api.OK},
		{chapterB(), of(1, -1, 4, -4, 4), api.OK},
		{lines(8), of(8, -8), api.OK},
		{chapterB(), slices.Repeat(of(4), 60), api.OK},
		{chapterB(), slices.Repeat(of(4), 61), api.ErrMany},
		{chapterB(), slices.Repeat(of(0), 61), api.ErrMany},
		{chapterB(), of(0), api.ErrRange},
		{chapterB(), of(1, 5), api.ErrRange},
		{chapterB(), of(-5, 1), api.ErrRange},
		{lines(1), of(1, 2), api.ErrRange},
		{chapterB(), of(math.MinInt), api.ErrRange},
		{chapterB(), of(math.MaxInt), api.ErrRange},
		{lines(0), of(0), api.ErrMany},
		{lines(4, 1, 0), of(0), api.ErrArg},
		{lines(4, 1, 0), slices.Repeat(of(0), 61), api.ErrArg},
	} {
		if e := stroke.CheckList(x.b, x.l); e != x.e {
			t.Error(i, e, x.e)
		}
	}
}

// The error of CheckBench comes before all others, then that of CheckList for
// each list, the first one first; with an error there are only zero values.
func TestInvalid(t *testing.T) {
	many := slices.Repeat(of(1), 61)
	wrong, right := of(1, 0), of(1, 2)
	for i, x := range []struct {
		b        api.StrokeBench
		one, two []int
		e, alone api.Errno // alone is for the first list without the second one
	}{
		{lines(0), many, wrong, api.ErrMany, api.ErrMany},
		{lines(2, 1, 0), many, many, api.ErrArg, api.ErrArg},
		{lines(2, 1, 0), right, wrong, api.ErrArg, api.ErrArg},
		{lines(2), many, wrong, api.ErrMany, api.ErrMany},
		{lines(2), wrong, many, api.ErrRange, api.ErrRange},
		{lines(2), right, many, api.ErrMany, api.OK},
		{lines(2), right, wrong, api.ErrRange, api.OK},
	} {
		checkLone(t, i, x.b, x.one, x.alone)
		checkLone(t, i, x.b, x.two, stroke.CheckList(x.b, x.two))
		if e := stroke.Same(x.b, x.one, x.two); e != x.e {
			t.Error(i, "Same", e)
		}
		if e := stroke.CheckChain(x.b, x.one, x.two, make([]api.StrokeMove, 9000)); e != x.e {
			t.Error(i, "CheckChain", e)
		}
		if c, e := stroke.Chain(x.b, x.one, x.two); e != x.e || len(c) > 0 {
			t.Error(i, "Chain", c, e)
		}
		if w, e := stroke.Way(x.b, x.one, x.two); e != x.e || len(w) > 0 {
			t.Error(i, "Way", w, e)
		}
		if c, e := stroke.Common(x.b, x.one, x.two); e != x.e || len(c) > 0 {
			t.Error(i, "Common", c, e)
		}
	}
}

// checkLone checks that all functions with one list return an error, if it is one, and nothing else.
func checkLone(t *testing.T, i int, b api.StrokeBench, l []int, want api.Errno) {
	t.Helper()
	if want == api.OK {
		return
	}
	if e := stroke.CheckList(b, l); e != want {
		t.Error(i, "CheckList", e)
	}
	if s, e := stroke.Short(b, l); e != want || len(s) > 0 {
		t.Error(i, "Short", s, e)
	}
	if f, e := stroke.Firsts(b, l); e != want || len(f) > 0 {
		t.Error(i, "Firsts", f, e)
	}
	if r, e := stroke.Rounds(b, l); e != want || len(r) > 0 {
		t.Error(i, "Rounds", r, e)
	}
	if n, e := stroke.CheckSpine(b, l, of(-1)); e != want || n != 0 {
		t.Error(i, "CheckSpine", n, e)
	}
	if s, e := stroke.Spine(b, l); e != want || len(s) > 0 {
		t.Error(i, "Spine", s, e)
	}
	if n, e := stroke.Count(b, l); e != want || n != 0 {
		t.Error(i, "Count", n, e)
	}
}

// P2.2
func TestShort(t *testing.T) {
	for i, x := range []struct {
		b    api.StrokeBench
		l, s []int
	}{
		{chapterB(), of(3, 1, 2, -2, 1), of(1, 1, 3)},
		{chapterB(), of(2, 4, -2), of(4)},
		{chapterB(), of(1, 2, -1), of(1, 2, -1)},
		{chapterB(), nil, nil},
		{chapterB(), of(1, -1), nil},
		{chapterB(), of(-3, 3), nil},
		{chapterB(), of(4, 3, 2, 1), of(4, 3, 2, 1)},
		{chapterB(), of(4, -2, 1, 3), of(-2, 1, 4, 3)},
		{chapterB(), of(1, 3, 4, -4, -3, -1), nil},
		{chapterB(), of(1, 2, 3, 4, 1, 2, 3, 4), of(1, 2, 1, 3, 2, 4, 3, 4)},
		{chapterB(), of(1, 3, -1, 4, -3), of(3, 4, -3)},
		{lines(3), of(-3, 3, -2, -1, 1, -1), of(-1, -2)},
		{lines(3), of(3, -2, 1, 3, -2, 1), of(1, 1, -2, -2, 3, 3)},
		{lines(1), of(1, 1, -1, -1, -1), of(-1)},
		{lines(8), slices.Repeat(of(8, -7), 30), joined(slices.Repeat(of(-7), 30), slices.Repeat(of(8), 30))},
		{lines(1), slices.Repeat(of(-1), 60), slices.Repeat(of(-1), 60)},
		{api.StrokeBench{Lines: 8, Cross: pairs(8)}, slices.Repeat(of(8, -7), 30), slices.Repeat(of(8, -7), 30)},
	} {
		if s, e := stroke.Short(x.b, x.l); e != api.OK || !slices.Equal(s, x.s) {
			t.Error(i, s, e)
		}
	}
}

// P2.3
func TestSame(t *testing.T) {
	for i, x := range []struct {
		b        api.StrokeBench
		one, two []int
		e        api.Errno
	}{
		{chapterB(), of(3, 1, 2, -2, 1), of(1, 3, 1), api.OK},
		{chapterB(), of(1, 2), of(2, 1), api.ErrDraw},
		{chapterB(), of(1, 3), of(3, 1), api.OK},
		{chapterB(), nil, nil, api.OK},
		{chapterB(), nil, of(2, 4, -4, -2), api.OK},
		{chapterB(), nil, of(2, 4, -2, -4), api.OK},
		{chapterB(), nil, of(2, 3, -2, -3), api.ErrDraw},
		{chapterB(), of(1), of(-1), api.ErrDraw},
		{chapterB(), of(1), of(1, 1), api.ErrDraw},
		{chapterB(), of(1), nil, api.ErrDraw},
		{chapterB(), nil, of(1), api.ErrDraw},
		{chapterB(), of(1), of(2), api.ErrDraw},
		{lines(2), slices.Repeat(of(1, 2), 30), joined(slices.Repeat(of(2), 30), slices.Repeat(of(1), 30)), api.OK},
		{lines(2, 0, 1), slices.Repeat(of(1, 2), 30), slices.Repeat(of(2, 1), 30), api.ErrDraw},
	} {
		if e := stroke.Same(x.b, x.one, x.two); e != x.e {
			t.Error(i, e)
		}
	}
}

// P2.4
func TestCheckChain(t *testing.T) {
	full := slices.Repeat(of(1), 60)
	puts := slices.Repeat(chain(put(0, 2)), 30)
	grown := joined(slices.Repeat(of(2), 30), slices.Repeat(of(-2), 30), full)
	takes := make([]api.StrokeMove, 30)
	for i := range takes {
		takes[i] = take(29 - i)
	}
	if len(grown) != api.MaxStrokeWay {
		t.Fatal(len(grown))
	}
	for i, x := range []struct {
		one, two []int
		chain    []api.StrokeMove
		e        api.Errno
	}{
		{of(2, 4, -2), of(4), chain(swap(1), take(0)), api.OK},
		{of(2, 4, -2), of(4), chain(take(0)), api.ErrRule},
		{of(2, 4, -2), of(4), chain(swap(0), take(1)), api.OK},
		{of(2, 4, -2), of(4), chain(swap(0)), api.ErrDraw},
		{of(2, 4, -2), of(2, 4, -2), nil, api.OK},
		{of(1, 3), of(3, 1), nil, api.ErrDraw},
		{nil, nil, nil, api.OK},
		{nil, of(-3, 3), chain(put(0, -3)), api.OK},
		{of(1), of(1, 2, -2), chain(put(1, 2)), api.OK},
		{of(1), of(1, 2, -2), chain(put(1, -2)), api.ErrDraw},
		{of(1), of(2, -2, 1), chain(put(0, 2)), api.OK},
		{of(-1, 1), nil, chain(take(0)), api.OK},
		// StrokeSwap
		{of(1, 2), of(2, 1), chain(swap(0)), api.ErrRule}, // they cross
		{of(1, 1), of(1, 1), chain(swap(0)), api.ErrRule}, // on one line
		{of(1, -1), of(-1, 1), chain(swap(0)), api.ErrRule},
		{of(1, 4), of(4, 1), chain(swap(0)), api.OK},
		{of(1, 4), of(4, 1), chain(swap(1)), api.ErrRule},
		{of(1, 4), of(4, 1), chain(swap(2)), api.ErrRule},
		{of(1, 4), of(4, 1), chain(swap(-1)), api.ErrRule},
		{of(1, 4), of(4, 1), chain(swap(math.MaxInt)), api.ErrRule},
		{of(1, 4), of(4, 1), chain(swap(math.MinInt)), api.ErrRule},
		{of(1, 4), of(4, 1), chain(api.StrokeMove{Kind: api.StrokeSwap, Stroke: 1}), api.ErrRule},
		// StrokeTake
		{of(1, 1), nil, chain(take(0)), api.ErrRule},
		{of(1, -2), nil, chain(take(0)), api.ErrRule},
		{of(1, -1), nil, chain(take(1)), api.ErrRule},
		{of(1, -1), nil, chain(take(2)), api.ErrRule},
		{of(1, -1), nil, chain(take(-1)), api.ErrRule},
		{of(1, -1), nil, chain(take(math.MaxInt)), api.ErrRule},
		{of(1, -1), nil, chain(api.StrokeMove{Kind: api.StrokeTake, Stroke: 1}), api.ErrRule},
		{of(1, -1), nil, chain(api.StrokeMove{Kind: api.StrokeTake, Stroke: math.MinInt}), api.ErrRule},
		// StrokePut
		{of(1), nil, chain(put(2, 1)), api.ErrRule},
		{of(1), nil, chain(put(-1, 1)), api.ErrRule},
		{of(1), nil, chain(put(math.MaxInt, 1)), api.ErrRule},
		{of(1), nil, chain(put(0, 0)), api.ErrRule},
		{of(1, 4), nil, chain(put(0, 0)), api.ErrRule},
		{of(1), nil, chain(put(0, 5)), api.ErrRule},
		{of(1), nil, chain(put(0, -5)), api.ErrRule},
		{of(1), nil, chain(put(0, math.MinInt)), api.ErrRule},
		{of(1), nil, chain(put(0, 4)), api.ErrDraw},
		// other kinds
		{of(1, -1, 4), of(1, -1, 4), chain(api.StrokeMove{}), api.ErrRule},
		{of(1, -1, 4), of(1, -1, 4), chain(api.StrokeMove{Kind: 4}), api.ErrRule},
		{of(1, -1, 4), of(1, -1, 4), chain(api.StrokeMove{Kind: -1, Stroke: 1}), api.ErrRule},
		// too many strokes, or moves
		{full, full, slices.Concat(puts, takes), api.OK},
		{full, full, puts, api.ErrDraw},
		{full, full, slices.Concat(puts, chain(put(0, 2))), api.ErrOver},
		{full, full, slices.Concat(puts, chain(put(120, 2), take(120))), api.ErrOver},
		{full, full, slices.Concat(puts, chain(put(0, 2), put(0, 0))), api.ErrOver},
		{full, full, slices.Concat(puts, chain(put(0, 0), put(0, 2))), api.ErrRule},
		{of(1, 3), of(1, 3), slices.Repeat(chain(swap(0)), 8192), api.OK},
		{of(1, 3), of(3, 1), slices.Repeat(chain(swap(0)), 8191), api.OK},
		{of(1, 3), of(3, 1), slices.Repeat(chain(swap(0)), 8192), api.ErrDraw},
		{of(1, 3), of(3, 1), slices.Repeat(chain(swap(0)), 8193), api.ErrMany},
		{full, full, slices.Repeat(chain(put(0, 2)), 8193), api.ErrMany},
		{full, full, slices.Repeat(chain(put(0, 0)), 8193), api.ErrMany},
	} {
		if e := stroke.CheckChain(chapterB(), x.one, x.two, x.chain); e != x.e {
			t.Error(i, e, x.e)
		}
	}
}

// P2.4
func TestChain(t *testing.T) {
	eight := lines(8)
	rising := make([]int, 60)
	for i := range rising {
		rising[i] = 1 + i*8/60
	}
	falling := slices.Clone(rising)
	slices.Reverse(falling)
	nest := joined(slices.Repeat(of(1, 2, 3, 4, 5, 6), 5), turned(slices.Repeat(of(1, 2, 3, 4, 5, 6), 5)))
	for i, x := range []struct {
		b        api.StrokeBench
		one, two []int
		e        api.Errno
	}{
		{chapterB(), of(3, 1, 2, -2, 1), of(1, 3, 1), api.OK},
		{chapterB(), of(1, 3, 1), of(3, 1, 2, -2, 1), api.OK},
		{chapterB(), of(2, 4, -2), of(4, 4, -4), api.OK},
		{chapterB(), nil, nil, api.OK},
		{chapterB(), nil, of(-1, 1), api.OK},
		{chapterB(), of(-1, 1), nil, api.OK},
		{chapterB(), of(1, 2), of(2, 1), api.ErrDraw},
		{chapterB(), nil, of(1), api.ErrDraw},
		{eight, falling, rising, api.OK},
		{eight, rising, falling, api.OK},
		{eight, nest, turned(nest), api.OK},
		{eight, nest, nil, api.OK},
		{api.StrokeBench{Lines: 8, Cross: pairs(8)}, nest, nil, api.OK},
	} {
		c, e := stroke.Chain(x.b, x.one, x.two)
		if e != x.e || e != api.OK && len(c) > 0 {
			t.Error(i, c, e)
			continue
		}
		if e == api.OK {
			followChain(t, x.b, x.one, x.two, c)
		}
	}
}

// followChain checks that moves are a chain from a list to another one.
func followChain(t *testing.T, b api.StrokeBench, one, two []int, c []api.StrokeMove) {
	t.Helper()
	if e := stroke.CheckChain(b, one, two, c); e != api.OK || len(c) > api.MaxStrokeMoves {
		t.Fatal(b, one, two, e, len(c))
	}
	for i, m := range c {
		if !slices.Contains(movesOf(b, one), m) {
			t.Fatal(b, one, two, i, m, "is no move")
		}
		if one = after(one, m); len(one) > api.MaxStrokeWay {
			t.Fatal(b, one, two, i, m, "is too long")
		}
	}
	if !slices.Equal(one, two) {
		t.Fatal(b, one, two, "is another list")
	}
}

// P2.5, P2.6 and P2.8
func TestFirstsRoundsCount(t *testing.T) {
	for i, x := range []struct {
		b         api.StrokeBench
		l, firsts []int
		rounds    [][]int
		count     int64
		e         api.Errno
	}{
		{chapterB(), of(4, 1, 3, 2), of(1, 4), [][]int{{1, 4}, {3}, {2}}, 3, api.OK},
		{chapterB(), nil, nil, nil, 1, api.OK},
		{chapterB(), of(2, -2), nil, nil, 1, api.OK},
		{chapterB(), of(1, 3, -1), of(3), [][]int{{3}}, 1, api.OK},
		{chapterB(), of(-4, -1), of(-1, -4), [][]int{{-1, -4}}, 2, api.OK},
		{chapterB(), of(4, -4, 4, 4, -1), of(-1, 4), [][]int{{-1, 4}, {4}}, 3, api.OK},
		{chapterB(), of(1, 2, 3, 4), of(1), [][]int{{1}, {2}, {3}, {4}}, 1, api.OK},
		{chapterB(), of(1, 2, 4, 4, 4), of(1, 4), [][]int{{1, 4}, {2, 4}, {4}}, 10, api.OK},
		{lines(8), of(8, -7, 6, -5, 4, -3, 2, -1), of(-1, 2, -3, 4, -5, 6, -7, 8), [][]int{{-1, 2, -3, 4, -5, 6, -7, 8}}, 40320, api.OK},
		{lines(8), slices.Repeat(of(1, 2, 3, 4, 5, 6, 7, 8), 2), of(1, 2, 3, 4, 5, 6, 7, 8), [][]int{{1, 2, 3, 4, 5, 6, 7, 8}, {1, 2, 3, 4, 5, 6, 7, 8}}, 81729648000, api.OK},
		{lines(2), slices.Repeat(of(1), 16), of(1), slices.Repeat([][]int{{1}}, 16), 1, api.OK},
		{lines(2), slices.Repeat(of(1, 2), 8), of(1, 2), slices.Repeat([][]int{{1, 2}}, 8), 12870, api.OK},
		{lines(2), slices.Repeat(of(1), 17), of(1), slices.Repeat([][]int{{1}}, 17), 0, api.ErrLong},
		{lines(2), joined(slices.Repeat(of(1), 17), of(2, -1, -1)), of(1, 2), slices.Concat([][]int{{1, 2}}, slices.Repeat([][]int{{1}}, 14)), 16, api.OK},
		{lines(2), slices.Repeat(of(1), 60), of(1), slices.Repeat([][]int{{1}}, 60), 0, api.ErrLong},
		{lines(2), joined(slices.Repeat(of(1), 30), slices.Repeat(of(-1), 30)), nil, nil, 1, api.OK},
	} {
		if f, e := stroke.Firsts(x.b, x.l); e != api.OK || !slices.Equal(f, x.firsts) {
			t.Error(i, f, e)
		}
		if r, e := stroke.Rounds(x.b, x.l); e != api.OK || !equalLists(r, x.rounds) {
			t.Error(i, r, e)
		}
		if n, e := stroke.Count(x.b, x.l); e != x.e || n != x.count {
			t.Error(i, n, e)
		}
	}
}

// P2.7
func TestCheckSpine(t *testing.T) {
	for i, x := range []struct {
		l, spine []int
		n        int
		e        api.Errno
	}{
		// the short form is 1 4 3 2
		{of(4, 1, 3, 2), of(1, 2, 3), 3, api.OK},
		{of(4, 1, 3, 2), of(0, 2, 3), 0, api.ErrRule},
		{of(4, 1, 3, 2), of(0, 3), 2, api.OK},
		{of(4, 1, 3, 2), of(2), 1, api.OK},
		{of(4, 1, 3, 2), nil, 0, api.OK},
		{of(4, 1, 3, 2), of(0, 1), 0, api.ErrRule},
		{of(4, 1, 3, 2), of(1, 3), 0, api.ErrRule},
		{of(4, 1, 3, 2), of(1, 2, 4), 0, api.ErrRange},
		{of(4, 1, 3, 2), of(-1, 0), 0, api.ErrRange},
		{of(4, 1, 3, 2), of(2, 2), 0, api.ErrRange},
		{of(4, 1, 3, 2), of(3, 2), 0, api.ErrRange},
		{of(4, 1, 3, 2), of(0, 1, 9), 0, api.ErrRange}, // before ErrRule
		{of(4, 1, 3, 2), of(math.MinInt), 0, api.ErrRange},
		{of(4, 1, 3, 2), of(math.MaxInt), 0, api.ErrRange},
		{of(4, 1, 3, 2), make([]int, 5000), 0, api.ErrRange},
		// two strokes along one line cannot be exchanged
		{of(1, 1, 3), of(0, 1), 2, api.OK},
		{of(1, 1, 3), of(0, 1, 2), 0, api.ErrRule},
		// indexes are those of the short form, not of the list
		{of(2, -2, 1), of(0), 1, api.OK},
		{of(2, -2, 1), of(1), 0, api.ErrRange},
		{nil, nil, 0, api.OK},
		{nil, of(0), 0, api.ErrRange},
	} {
		if n, e := stroke.CheckSpine(chapterB(), x.l, x.spine); n != x.n || e != x.e {
			t.Error(i, n, e)
		}
	}
}

// P2.7
func TestSpine(t *testing.T) {
	for i, x := range []struct {
		b api.StrokeBench
		l []int
		n int
	}{
		{chapterB(), of(4, 1, 3, 2), 3},
		{chapterB(), nil, 0},
		{chapterB(), of(1, -1), 0},
		{chapterB(), of(1, 3), 1},
		{chapterB(), of(1, 2, 3, 4), 4},
		{lines(8), slices.Repeat(of(1, 2, 3, 4, 5, 6, 7, 8), 7), 7},
		{api.StrokeBench{Lines: 8, Cross: pairs(8)}, slices.Repeat(of(1, 2, 3, 4, 5, 6), 10), 60},
	} {
		s, e := stroke.Spine(x.b, x.l)
		if n, f := stroke.CheckSpine(x.b, x.l, s); e != api.OK || f != api.OK || n != x.n || len(s) != x.n {
			t.Error(i, s, e, n, f)
		}
	}
}

// P2.9
func TestWayAndCommon(t *testing.T) {
	for i, x := range []struct {
		b                      api.StrokeBench
		one, two, way, commons []int
	}{
		{chapterB(), of(1, 4, 3, 2), of(4, 1, 2), of(-2, -3, 2), of(1, 4)},
		{chapterB(), of(4, 1, 2), of(1, 4, 3, 2), of(-2, 3, 2), of(1, 4)},
		{chapterB(), nil, of(4, 1), of(1, 4), nil},
		{chapterB(), of(4, 1), nil, of(-1, -4), nil},
		{chapterB(), nil, nil, nil, nil},
		{chapterB(), of(3, 1, 2, -2), of(1, 3), nil, of(1, 3)},
		{chapterB(), of(1, 2), of(2, 1), of(-2, -1, 2, 1), nil},
		{chapterB(), of(1), of(-1), of(-1, -1), nil},
		{chapterB(), of(1, 2), of(1, -2), of(-2, -2), of(1)},
		{chapterB(), of(1, 2), of(1), of(-2), of(1)},
		{chapterB(), of(4, 1, 1), of(-4, 1, 1, 1), of(1, -4, -4), of(1, 1)},
		{lines(1), slices.Repeat(of(1), 60), slices.Repeat(of(-1), 60), slices.Repeat(of(-1), 120), nil},
		{lines(2, 0, 1), slices.Repeat(of(1), 60), slices.Repeat(of(2), 60), joined(slices.Repeat(of(-1), 60), slices.Repeat(of(2), 60)), nil},
		{lines(2), slices.Repeat(of(2), 60), slices.Repeat(of(1), 60), joined(slices.Repeat(of(1), 60), slices.Repeat(of(-2), 60)), nil},
		{lines(2), slices.Repeat(of(2, 1), 30), slices.Repeat(of(2, 1), 30), nil, joined(slices.Repeat(of(1), 30), slices.Repeat(of(2), 30))},
	} {
		if w, e := stroke.Way(x.b, x.one, x.two); e != api.OK || !slices.Equal(w, x.way) {
			t.Error(i, w, e)
		}
		if c, e := stroke.Common(x.b, x.one, x.two); e != api.OK || !slices.Equal(c, x.commons) {
			t.Error(i, c, e)
		}
	}
}
