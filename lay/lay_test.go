package lay_test

import (
	"math"
	"slices"
	"testing"

	"oxgall/api"
	"oxgall/lay"
)

// P9.1
func TestCheckSheet(t *testing.T) {
	for i, x := range []struct {
		s api.LaySheet
		e api.Errno
	}{
		{chapterS(), api.OK},
		{loose(1, 1), api.OK},
		{loose(1, 40), api.OK},
		{loose(30, 40), api.OK},
		{row(30, 1), api.OK}, // it is valid, though there is no right plan
		{star(30, 40), api.OK},
		{alike(7, -1, 0, 1), api.OK},
		{alike(7, 1, 2, -1), api.OK},
		{sheet(of(1, -1), of(40, 1)), api.OK},
		{api.LaySheet{}, api.ErrMany},
		{loose(31, 5), api.ErrMany},
		{loose(70000, 5), api.ErrMany},
		{sheet(nil, of(1)), api.ErrMany},
		{sheet(of(-1), nil), api.ErrEqual},
		{sheet(of(-1, -1), of(1)), api.ErrEqual},
		{sheet(of(-1), of(1, 1)), api.ErrEqual},
		{sheet(of(-1), make([]int, 70000)), api.ErrEqual},
		{alike(5, 0), api.ErrRange},
		{alike(5, -1, 1), api.ErrRange},
		{alike(5, -1, 2), api.ErrRange},
		{alike(5, 1, -2), api.ErrRange},
		{alike(5, -1, 0, 3), api.ErrRange},
		{alike(5, math.MinInt), api.ErrRange},
		{alike(5, math.MaxInt), api.ErrRange},
		{alike(0, -1), api.ErrRange},
		{alike(41, -1), api.ErrRange},
		{alike(-1, -1), api.ErrRange},
		{sheet(of(-1, 0, 0), of(5, 5, 0)), api.ErrRange},
		{sheet(of(-1, 0, 0), of(5, 41, 5)), api.ErrRange},
		{sheet(of(-1, 0), of(math.MaxInt, 5)), api.ErrRange},
		{sheet(of(-1, 0), of(5, math.MinInt)), api.ErrRange},
		{alike(5, 1, 0), api.ErrRule},
		{alike(5, 1, 2, 0), api.ErrRule},
		{alike(5, -1, 2, 3, 1), api.ErrRule},
		{alike(5, 1, 2, 3, 2), api.ErrRule}, // they lead back only behind the first ones
		{alike(5, 3, 2, 1, -1), api.ErrRule},
		{withTo(row(30, 40), 29, 0), api.ErrRule},
		{withTo(row(30, 40), 29, 28), api.ErrRule},
		// of several errors the one that is named first
		{sheet(make([]int, 31), of(0)), api.ErrMany},
		{sheet(of(5, 1, 0), of(0, 0)), api.ErrEqual},
		{sheet(of(1, 0), of(5, 0)), api.ErrRange},
		{sheet(of(1, 0, 3), of(5, 5, 5)), api.ErrRange},
		{alike(5, 1, 0, 2), api.ErrRange},
	} {
		if e := lay.CheckSheet(x.s); e != x.e {
			t.Error(i, e, x.e)
		}
	}
}

// The error of CheckSheet comes before all others, and with it zero values.
func TestInvalidSheet(t *testing.T) {
	for _, x := range []struct {
		s api.LaySheet
		e api.Errno
	}{
		{api.LaySheet{}, api.ErrMany},
		{loose(31, 5), api.ErrMany},
		{sheet(of(-1, 0), of(5)), api.ErrEqual},
		{alike(5, -1, 1), api.ErrRange},
		{alike(41, -1, 0), api.ErrRange},
		{alike(5, 1, 0), api.ErrRule},
	} {
		if levels, e := lay.Levels(x.s); e != x.e || len(levels) > 0 {
			t.Error("Levels", levels, e, x.e)
		}
		if last, e := lay.Last(x.s); e != x.e || len(last) > 0 {
			t.Error("Last", last, e, x.e)
		}
		if hands, e := lay.Hands(x.s); e != x.e || hands != 0 {
			t.Error("Hands", hands, e, x.e)
		}
		for _, plan := range [][][]int{nil, turns(of(0), of(1)), turns(of(7)), make([][]int, 41)} {
			if lines, e := lay.Lines(x.s, plan); e != x.e || len(lines) > 0 {
				t.Error("Lines", lines, e, x.e)
			}
			if e := lay.CheckPlan(x.s, 1, plan); e != x.e {
				t.Error("CheckPlan", e, x.e)
			}
		}
		for _, n := range of(0, 1, 11, -1, math.MinInt, math.MaxInt) {
			likeHands(t, x.s, n, x.e)
		}
	}
}

// Hands that are not as described give ErrArg, before all other errors.
func TestInvalidHands(t *testing.T) {
	for _, hands := range of(0, -1, 11, 12, math.MinInt, math.MaxInt) {
		for _, s := range []api.LaySheet{chapterS(), chapterV(), row(3, 1)} {
			likeHands(t, s, hands, api.ErrArg)
		}
	}
	for _, hands := range of(1, 10) {
		if plan := mustPlan(t, loose(1, 1), hands); len(plan) != 1 {
			t.Error(plan)
		}
	}
}

// likeHands checks that all functions with hands return an error, and with it zero values.
func likeHands(t *testing.T, s api.LaySheet, hands int, want api.Errno) {
	t.Helper()
	for _, plan := range [][][]int{nil, turns(of(0, 1, 2)), make([][]int, 41)} {
		if e := lay.CheckPlan(s, hands, plan); e != want {
			t.Error("CheckPlan", e, want)
		}
	}
	if plan, e := lay.Plan(s, hands); e != want || len(plan) > 0 {
		t.Error("Plan", plan, e, want)
	}
	if turn, e := lay.Crowd(s, hands); e != want || turn != 0 {
		t.Error("Crowd", turn, e, want)
	}
	if turns, e := lay.Turns(s, hands); e != want || turns != 0 {
		t.Error("Turns", turns, e, want)
	}
	if rests, e := lay.Rests(s, hands); e != want || len(rests) > 0 {
		t.Error("Rests", rests, e, want)
	}
	for _, n := range of(0, 1, -1, 41, math.MinInt, math.MaxInt) {
		if e := lay.CheckCrowd(s, hands, n); e != want {
			t.Error("CheckCrowd", e, want)
		}
		if turn, e := lay.Early(s, hands, n); e != want || turn != 0 {
			t.Error("Early", turn, e, want)
		}
	}
}

// The examples of the chapter.
func TestExamples(t *testing.T) {
	s, u, v := chapterS(), chapterU(), chapterV()
	if levels, e := lay.Levels(s); !slices.Equal(levels, of(3, 3, 2, 3, 3, 2, 1)) || e != api.OK {
		t.Error(levels, e)
	}
	if last := mustLast(t, s); !slices.Equal(last, of(3, 3, 4, 3, 3, 4, 5)) {
		t.Error(last)
	}
	for _, x := range []struct {
		plan [][]int
		e    api.Errno
	}{
		{turns(of(0, 1), of(3, 4), of(2, 5), of(6)), api.OK},
		{turns(of(0, 1), of(3, 4, 2), of(5), of(6)), api.ErrOver},
		{turns(of(0, 1), of(2, 3), of(4), of(5), of(6)), api.ErrLate},
	} {
		if e := lay.CheckPlan(u, 2, x.plan); e != x.e {
			t.Error(x.plan, e)
		}
	}
	if plan := mustPlan(t, s, 2); len(plan) != 4 {
		t.Error(plan)
	}
	if plan, e := lay.Plan(v, 2); len(plan) > 0 || e != api.ErrPlan {
		t.Error(plan, e)
	}
	if turn, e := lay.Crowd(v, 2); turn != 1 || e != api.OK {
		t.Error(turn, e)
	}
	if turn, e := lay.Crowd(u, 2); turn != 0 || e != api.ErrNone {
		t.Error(turn, e)
	}
	for i, want := range of(2, 2, 4) {
		if hands, e := lay.Hands([]api.LaySheet{s, u, v}[i]); hands != want || e != api.OK {
			t.Error(i, hands, e)
		}
	}
	if two, three, four := mustTurns(t, s, 2), mustTurns(t, s, 3), mustTurns(t, s, 4); two != 4 || three != 4 || four != 3 {
		t.Error(two, three, four)
	}
	if one, two := mustEarly(t, s, 2, 5), mustEarly(t, u, 2, 5); one != 2 || two != 3 {
		t.Error(one, two)
	}
	if one, two := mustRests(t, s, 2), mustRests(t, u, 2); !slices.Equal(one, of(1, 2, 3, 4, 5)) || len(two) > 0 {
		t.Error(one, two)
	}
	if lines, e := lay.Lines(s, turns(of(0, 1), of(3, 4), of(2, 5), of(6))); !slices.Equal(lines, of(0, 1)) || e != api.OK {
		t.Error(lines, e)
	}
}

// P9.2
func TestLevelsAndLast(t *testing.T) {
	var down, up, below []int
	for n := range 30 {
		down = append(down, 30-n)
		up = append(up, 11+n)
		below = append(below, n-28)
	}
	for i, x := range []struct {
		s            api.LaySheet
		levels, last []int
	}{
		{loose(1, 7), of(1), of(7)},
		{loose(3, 40), of(1, 1, 1), of(40, 40, 40)},
		{row(30, 40), down, up},
		{row(30, 1), down, below},
		{sheet(of(1, 2, -1), of(2, 2, 40)), of(3, 2, 1), of(1, 2, 40)},
		{sheet(of(1, 2, -1), of(40, 40, 2)), of(3, 2, 1), of(0, 1, 2)},
		{sheet(of(-1, 0, 1), of(2, 40, 40)), of(1, 2, 3), of(2, 1, 0)},
		{sheet(of(-1, 0, 0, 1), of(9, 3, 12, 5)), of(1, 2, 2, 3), of(9, 3, 8, 2)},
		{sheet(of(2, 3, -1, 2), of(1, 1, 1, 1)), of(2, 3, 1, 2), of(0, -1, 1, 0)},
	} {
		if levels, e := lay.Levels(x.s); !slices.Equal(levels, x.levels) || e != api.OK {
			t.Error(i, levels, e)
		}
		if last := mustLast(t, x.s); !slices.Equal(last, x.last) {
			t.Error(i, last)
		}
	}
}

// P9.3 and P9.9
func TestCheckPlan(t *testing.T) {
	two := sheet(of(1, -1), of(2, 3)) // the cell 0 leads to the cell 1
	full := make([][]int, 40)
	full[0], full[39] = of(0), of(1)
	long := append(slices.Clone(full), nil)
	huge := slices.Repeat(turns(make([]int, 70000)), 40)
	for i, x := range []struct {
		s     api.LaySheet
		hands int
		plan  [][]int
		e, f  api.Errno
		lines []int
	}{
		{two, 1, turns(of(0), of(1)), api.OK, api.OK, nil},
		{two, 1, turns(of(0), nil, of(1)), api.OK, api.OK, of(0)},
		{two, 1, turns(nil, of(0), of(1), nil, nil), api.OK, api.OK, nil},
		{two, 1, turns(of(0), of(1), of(), nil), api.OK, api.OK, nil},
		{alike(40, 1, -1), 1, full, api.OK, api.OK, of(0)},
		{two, 1, full, api.ErrLate, api.OK, of(0)},
		{two, 1, long, api.ErrMany, api.ErrMany, nil},
		{two, 1, make([][]int, 70000), api.ErrMany, api.ErrMany, nil},
		{two, 1, nil, api.ErrEqual, api.ErrEqual, nil},
		{two, 1, turns(nil, nil), api.ErrEqual, api.ErrEqual, nil},
		{two, 1, turns(of(0)), api.ErrEqual, api.ErrEqual, nil},
		{two, 1, turns(of(1)), api.ErrEqual, api.ErrEqual, nil},
		{two, 2, turns(of(0, 0), of(1)), api.ErrEqual, api.ErrEqual, nil},
		{two, 1, turns(of(0), of(1), of(0)), api.ErrEqual, api.ErrEqual, nil},
		{two, 1, turns(of(0), of(1), of(2)), api.ErrEqual, api.ErrEqual, nil},
		{two, 1, turns(of(-1), of(0), of(1)), api.ErrEqual, api.ErrEqual, nil},
		{two, 1, turns(of(0), of(1), of(29)), api.ErrEqual, api.ErrEqual, nil},
		{two, 1, turns(of(math.MinInt), of(math.MaxInt)), api.ErrEqual, api.ErrEqual, nil},
		{two, 1, huge, api.ErrEqual, api.ErrEqual, nil},
		{two, 1, turns(of(0, 1)), api.ErrOver, api.OK, of(0)},
		{two, 2, turns(of(0, 1)), api.ErrRule, api.OK, of(0)},
		{two, 1, turns(of(1), of(0)), api.ErrRule, api.OK, of(0)},
		{two, 1, turns(nil, nil, of(0), of(1)), api.ErrLate, api.OK, nil},
		{two, 1, turns(of(0), nil, nil, of(1)), api.ErrLate, api.OK, of(0)},
		{two, 1, turns(of(0), nil, nil, nil, nil, of(1)), api.ErrLate, api.OK, of(0)},
		{chapterS(), 2, turns(of(4, 3), of(1, 0), of(5, 2), of(6)), api.OK, api.OK, of(3, 4)},
		{chapterS(), 3, turns(of(3, 0, 4), of(5, 1), of(2), of(6)), api.OK, api.OK, of(0, 5)},
		{chapterS(), 2, turns(of(3, 0, 4), of(5, 1), of(2), of(6)), api.ErrOver, api.OK, of(0, 5)},
		{loose(10, 1), 10, turns(of(9, 8, 7, 6, 5, 4, 3, 2, 1, 0)), api.OK, api.OK, nil},
		{loose(11, 1), 10, turns(of(10, 9, 8, 7, 6, 5, 4, 3, 2, 1, 0)), api.ErrOver, api.OK, nil},
		// of several errors the one that is named first
		{two, 1, append(long, of(0, 0)), api.ErrMany, api.ErrMany, nil},
		{two, 1, turns(of(0, 1), of(0)), api.ErrEqual, api.ErrEqual, nil},
		{loose(3, 1), 1, turns(nil, of(0, 1), of(2)), api.ErrOver, api.OK, nil},
		{alike(1, 1, -1), 1, turns(nil, nil, of(1), of(0)), api.ErrRule, api.OK, of(0)},
	} {
		if e := lay.CheckPlan(x.s, x.hands, x.plan); e != x.e {
			t.Error(i, e, x.e)
		}
		if lines, e := lay.Lines(x.s, x.plan); !slices.Equal(lines, x.lines) || e != x.f {
			t.Error(i, lines, e)
		}
	}
}

// P9.4, P9.5, P9.6 and P9.8
func TestPlans(t *testing.T) {
	for i, x := range []struct {
		s     api.LaySheet
		hands int
		turns int // 0 if there is no right plan
		crowd int
		most  int // the hands that are needed, 0 if no number of hands is enough
		rests []int
	}{
		{loose(1, 1), 1, 1, 0, 1, nil},
		{loose(1, 2), 1, 1, 0, 1, of(1, 2)},
		{loose(30, 40), 10, 3, 0, 1, counted(40)},
		{loose(30, 40), 1, 30, 0, 1, counted(40)},
		{loose(30, 30), 1, 30, 0, 1, nil},
		{loose(30, 29), 1, 0, 29, 2, nil},
		{loose(30, 3), 10, 3, 0, 10, nil},
		{loose(30, 2), 10, 0, 2, 15, nil},
		{loose(30, 1), 10, 0, 1, 30, nil},
		{loose(11, 1), 10, 0, 1, 11, nil},
		{row(30, 40), 10, 30, 0, 1, counted(40)},
		{row(30, 30), 1, 30, 0, 1, nil},
		{row(30, 29), 10, 0, 0, 0, nil},
		{row(2, 1), 2, 0, 0, 0, nil},
		{star(30, 2), 10, 0, 1, 29, nil},
		{star(30, 4), 10, 4, 0, 10, nil},
		{star(30, 5), 10, 4, 0, 8, counted(5)},
		{star(11, 2), 10, 2, 0, 10, nil},
		{chapterV(), 3, 0, 1, 4, nil},
		{chapterV(), 4, 3, 0, 4, nil},
		{chapterU(), 3, 4, 0, 2, nil},
		{chapterU(), 4, 3, 0, 2, counted(4)},
		// a cell without a rush is laid beside the others, or left until the end
		{sheet(of(1, 2, -1, -1), of(40, 40, 3, 4)), 1, 4, 0, 1, counted(40)[4:]},
		{sheet(of(1, 2, -1, -1), of(40, 40, 3, 5)), 1, 4, 0, 1, counted(40)[3:]},
		{sheet(of(1, 2, -1, -1), of(40, 40, 3, 5)), 2, 3, 0, 1, counted(40)[3:]},
		// fewer turns with other plans than those that Dues alone ask for
		{sheet(of(-1, -1, 3, 4, -1), of(3, 3, 40, 40, 40)), 2, 3, 0, 1, counted(40)},
		// one due too early in the way of others
		{sheet(of(-1, -1, -1), of(2, 1, 1)), 1, 0, 1, 2, nil},
		{sheet(of(-1, -1, -1), of(2, 2, 2)), 1, 0, 2, 2, nil},
		{sheet(of(-1, -1, -1), of(2, 2, 9)), 1, 3, 0, 1, counted(9)[2:]},
		{sheet(of(-1, -1, -1), of(1, 4, 9)), 1, 3, 0, 1, counted(9)[1:]},
		// the greatest Due is not the last one
		{sheet(of(-1, -1), of(4, 1)), 1, 2, 0, 1, of(2, 3, 4)},
	} {
		e, f, g := api.OK, api.ErrNone, api.OK
		if x.turns == 0 {
			e, f = api.ErrPlan, api.OK
		}
		if x.most == 0 {
			g = api.ErrPlan
		}
		plan, e1 := lay.Plan(x.s, x.hands)
		turns, e2 := lay.Turns(x.s, x.hands)
		if len(plan) != x.turns || turns != x.turns || e1 != e || e2 != e {
			t.Error(i, plan, turns, e1, e2)
		}
		if e == api.OK {
			mustPlan(t, x.s, x.hands)
		}
		if turn, no := lay.Crowd(x.s, x.hands); turn != x.crowd || no != f {
			t.Error(i, turn, no)
		}
		if hands, no := lay.Hands(x.s); hands != x.most || no != g {
			t.Error(i, hands, no)
		}
		if rests, no := lay.Rests(x.s, x.hands); !slices.Equal(rests, x.rests) || no != e {
			t.Error(i, rests, no)
		}
	}
}

// counted returns the numbers from 1 to n.
func counted(n int) []int {
	var l []int
	for i := range n {
		l = append(l, i+1)
	}
	return l
}

// P9.5
func TestCheckCrowd(t *testing.T) {
	late := row(3, 2) // last turns 0, 1 and 2
	for i, x := range []struct {
		s           api.LaySheet
		hands, turn int
		e           api.Errno
	}{
		{chapterV(), 2, 1, api.OK},
		{chapterV(), 2, 0, api.ErrSum},
		{chapterV(), 2, 2, api.OK},
		{chapterV(), 2, 3, api.OK},
		{chapterV(), 2, 4, api.ErrSum},
		{chapterV(), 4, 1, api.ErrSum},
		{chapterV(), 3, 1, api.OK},
		{chapterV(), 3, 2, api.ErrSum},
		{chapterU(), 2, 2, api.ErrSum},
		{late, 1, 0, api.OK},
		{late, 1, 1, api.OK},
		{late, 1, 2, api.OK},
		{late, 1, 3, api.ErrSum},
		{late, 3, 0, api.OK},
		{late, 3, 1, api.ErrSum},
		{row(30, 1), 10, 0, api.OK},
		{row(30, 1), 10, 2, api.OK},
		{row(30, 1), 10, 3, api.ErrSum},
		{loose(30, 40), 1, 40, api.ErrSum},
		{loose(30, 40), 1, 0, api.ErrSum},
		{loose(30, 29), 1, 29, api.OK},
		{loose(30, 29), 1, 28, api.ErrSum},
		{loose(30, 29), 1, 30, api.ErrSum},
		{chapterV(), 2, -1, api.ErrRange},
		{chapterV(), 2, 41, api.ErrRange},
		{chapterS(), 2, 41, api.ErrRange},
		{late, 1, -1, api.ErrRange},
		{late, 1, math.MinInt, api.ErrRange},
		{late, 1, math.MaxInt, api.ErrRange},
	} {
		if e := lay.CheckCrowd(x.s, x.hands, x.turn); e != x.e {
			t.Error(i, e, x.e)
		}
	}
}

// P9.7
func TestEarly(t *testing.T) {
	mixed := sheet(of(1, 2, -1, -1), of(40, 40, 3, 5))
	for i, x := range []struct {
		s           api.LaySheet
		hands, cell int
		turn        int
		e           api.Errno
	}{
		{chapterS(), 2, 0, 1, api.OK},
		{chapterS(), 2, 6, 4, api.OK},
		{chapterS(), 4, 6, 3, api.OK},
		{chapterU(), 3, 5, 2, api.OK},
		{chapterU(), 2, 4, 1, api.OK},
		{chapterU(), 2, 6, 4, api.OK},
		{row(30, 40), 10, 29, 30, api.OK},
		{row(30, 40), 1, 0, 1, api.OK},
		{star(30, 40), 10, 29, 4, api.OK},
		{star(30, 40), 1, 29, 30, api.OK},
		{mixed, 1, 3, 4, api.OK},
		{mixed, 2, 3, 1, api.OK},
		{mixed, 1, 0, 1, api.OK},
		{mixed, 1, 2, 3, api.OK},
		{chapterS(), 2, 7, 0, api.ErrRange},
		{chapterS(), 2, -1, 0, api.ErrRange},
		{chapterS(), 2, math.MinInt, 0, api.ErrRange},
		{chapterS(), 2, math.MaxInt, 0, api.ErrRange},
		{loose(1, 1), 1, 1, 0, api.ErrRange},
		{chapterV(), 2, 7, 0, api.ErrRange}, // before ErrPlan
		{chapterV(), 2, 6, 0, api.ErrPlan},
		{row(2, 1), 10, 0, 0, api.ErrPlan},
	} {
		if turn, e := lay.Early(x.s, x.hands, x.cell); turn != x.turn || e != x.e {
			t.Error(i, turn, e)
		}
	}
}
