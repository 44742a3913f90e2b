package lay_test

import (
	"slices"
	"testing"

	"oxgall/api"
	"oxgall/lay"
)

// P9.2: levels and last turns are those that the ways from cells give.
func TestLevelsByAll(t *testing.T) {
	below := 0
	look := func(s api.LaySheet) {
		levels, e := lay.Levels(s)
		last := mustLast(t, s)
		if e != api.OK || len(levels) != len(s.To) || len(last) != len(s.To) {
			t.Fatal(s, levels, last, e)
		}
		for cell := range s.To {
			if levels[cell] != len(wayOf(s, cell)) || last[cell] != lastOf(s, cell) {
				t.Fatal(s, cell, levels, last)
			}
			if last[cell] < 1 {
				below++
			}
		}
	}
	sheets(t, func(_ dice, s api.LaySheet, _ int) { look(s) })
	large(t, func(_ dice, s api.LaySheet, _ int) { look(s) })
	tiny(3, 3, func(s api.LaySheet, _ int) { look(s) })
	if below < 100 {
		t.Error("few last turns are below 1", below)
	}
}

// P9.3 and P9.9: what is right, and where lines are left, for all plans that have each cell once.
func TestCheckPlanByAll(t *testing.T) {
	errors := map[api.Errno]int{}
	look := func(s api.LaySheet, hands int) {
		placed(len(s.To), slices.Max(s.Due)+1, func(at []int) {
			plan := planOf(at)
			e := lay.CheckPlan(s, hands, plan)
			if e != errorOf(s, hands, at) || (e == api.OK) != isRight(s, hands, at) {
				t.Fatal(s, hands, plan, e)
			}
			errors[e]++
			var left []int
			for cell, to := range s.To {
				if to >= 0 && at[to] != at[cell]+1 {
					left = append(left, cell)
				}
			}
			if lines, e := lay.Lines(s, plan); !slices.Equal(lines, left) || e != api.OK {
				t.Fatal(s, plan, lines, e)
			}
		})
	}
	sheets(t, func(_ dice, s api.LaySheet, hands int) {
		if len(s.To) < 5 {
			look(s, hands)
		}
	})
	tiny(3, 2, look)
	if len(errors) != 4 {
		t.Error("some errors do not come", errors)
	}
}

// errorOf returns the error of CheckPlan for a turn for each cell.
func errorOf(s api.LaySheet, hands int, at []int) api.Errno {
	for _, cells := range planOf(at) {
		if len(cells) > hands {
			return api.ErrOver
		}
	}
	for cell := range s.To {
		if slices.ContainsFunc(wayOf(s, cell)[1:], func(next int) bool { return at[next] <= at[cell] }) {
			return api.ErrRule
		}
	}
	for cell, due := range s.Due {
		if at[cell] > due {
			return api.ErrLate
		}
	}
	return api.OK
}

// P9.3: what does not have each cell just once.
func TestUnequalPlans(t *testing.T) {
	sheets(t, func(d dice, s api.LaySheet, hands int) {
		at := make([]int, len(s.To))
		for cell := range at {
			at[cell] = 1 + d.IntN(5)
		}
		plan := planOf(at)
		turn := d.IntN(len(plan))
		more := slices.Clone(plan)
		more[turn] = append(slices.Clone(plan[turn]), d.IntN(len(s.To)+3)-1)
		less := slices.Clone(plan)
		less[at[0]-1] = plan[at[0]-1][1:] // without the cell 0, the first one of its turn
		for _, other := range [][][]int{more, less} {
			if e := lay.CheckPlan(s, hands, other); e != api.ErrEqual {
				t.Fatal(s, other, e)
			}
			if lines, e := lay.Lines(s, other); e != api.ErrEqual || len(lines) > 0 {
				t.Fatal(s, other, lines, e)
			}
		}
	})
}

// P9.4, P9.6, P9.7, P9.8 and P9.13: what all right plans show.
func TestPlansByAll(t *testing.T) {
	possible, not := 0, 0
	look := func(s api.LaySheet, hands int) {
		right := rightOf(s, hands)
		if len(right) == 0 {
			noPlan(t, s, hands)
			not++
			return
		}
		possible++
		fewest := len(planOf(slices.MinFunc(right, func(a, b []int) int { return slices.Max(a) - slices.Max(b) })))
		if plan := mustPlan(t, s, hands); len(plan) != fewest || mustTurns(t, s, hands) != fewest {
			t.Fatal(s, hands, plan, fewest)
		}
		last := mustLast(t, s)
		for cell := range s.To {
			early := 99
			for _, at := range right {
				early = min(early, at[cell])
				if at[cell] > last[cell] || at[cell] < depthOf(s, cell) {
					t.Fatal(s, hands, cell, at)
				}
			}
			if n := mustEarly(t, s, hands, cell); n != early {
				t.Fatal(s, hands, cell, n, early)
			}
		}
		var rests []int
		for turn := 1; turn <= slices.Max(s.Due); turn++ {
			if slices.ContainsFunc(right, func(at []int) bool { return !slices.Contains(at, turn) }) {
				rests = append(rests, turn)
			}
		}
		if l := mustRests(t, s, hands); !slices.Equal(l, rests) {
			t.Fatal(s, hands, l, rests)
		}
	}
	sheets(t, func(_ dice, s api.LaySheet, hands int) { look(s, hands) })
	tiny(1, 4, look)
	tiny(2, 4, look)
	tiny(3, 4, look)
	tiny(4, 3, look)
	if possible < 1000 || not < 1000 {
		t.Error(possible, not)
	}
}

// noPlan checks what all functions tell where there is no right plan.
func noPlan(t *testing.T, s api.LaySheet, hands int) {
	t.Helper()
	plan, e1 := lay.Plan(s, hands)
	turns, e2 := lay.Turns(s, hands)
	early, e3 := lay.Early(s, hands, 0)
	rests, e4 := lay.Rests(s, hands)
	if len(plan) > 0 || turns != 0 || early != 0 || len(rests) > 0 {
		t.Fatal(s, hands, plan, turns, early, rests)
	}
	for _, e := range []api.Errno{e1, e2, e3, e4} {
		if e != api.ErrPlan {
			t.Fatal(s, hands, e1, e2, e3, e4)
		}
	}
}

// P9.6: the fewest hands are those with which all plans show a right one first.
func TestHandsByAll(t *testing.T) {
	look := func(s api.LaySheet) {
		fewest := 0
		for hands := len(s.To); hands > 0 && len(rightOf(s, hands)) > 0; hands-- {
			fewest = hands
		}
		hands, e := lay.Hands(s)
		if hands != fewest || (fewest > 0) != (e == api.OK) || e != api.OK && e != api.ErrPlan {
			t.Fatal(s, hands, e, fewest)
		}
	}
	sheets(t, func(_ dice, s api.LaySheet, _ int) { look(s) })
	tiny(3, 3, func(s api.LaySheet, _ int) { look(s) })
	// more hands than there can be, and all cells in one turn
	large(t, func(_ dice, s api.LaySheet, _ int) {
		hands, e := lay.Hands(s)
		if dueUpTo(s, 0) > 0 {
			if hands != 0 || e != api.ErrPlan {
				t.Fatal(s, hands, e)
			}
			return
		}
		if e != api.OK || crowdOf(s, hands) >= 0 || crowdOf(s, hands-1) < 0 {
			t.Fatal(s, hands, e)
		}
	})
}

// P9.5 and P9.10: there is either a right plan, or a turn in which cells crowd.
func TestEither(t *testing.T) {
	crowded, possible := 0, 0
	look := func(s api.LaySheet, hands int) {
		crowd := crowdOf(s, hands)
		for turn := range api.MaxLayTurns + 1 {
			want := api.ErrSum
			if dueUpTo(s, turn) > hands*turn {
				want = api.OK
			}
			if e := lay.CheckCrowd(s, hands, turn); e != want {
				t.Fatal(s, hands, turn, e)
			}
		}
		turn, e := lay.Crowd(s, hands)
		if crowd < 0 {
			if turn != 0 || e != api.ErrNone {
				t.Fatal(s, hands, turn, e)
			}
			mustPlan(t, s, hands)
			possible++
			return
		}
		if turn != crowd || e != api.OK {
			t.Fatal(s, hands, turn, e, crowd)
		}
		noPlan(t, s, hands)
		crowded++
	}
	sheets(t, func(_ dice, s api.LaySheet, hands int) { look(s, hands) })
	large(t, func(_ dice, s api.LaySheet, hands int) { look(s, hands) })
	tiny(3, 3, look)
	if crowded < 200 || possible < 200 {
		t.Error(crowded, possible)
	}
}

// P9.11: one hand more, a greater Due, or a cell that does not lead to another one any more.
func TestMore(t *testing.T) {
	look := func(d dice, s api.LaySheet, hands int) {
		if !isPossible(t, s, hands) {
			return
		}
		cell := d.IntN(len(s.To))
		noWorse(t, s, s, hands, min(hands+1, api.MaxLayHands))
		noWorse(t, s, withDue(s, cell, min(s.Due[cell]+1+d.IntN(3), api.MaxLayTurns)), hands, hands)
		noWorse(t, s, withTo(s, cell, -1), hands, hands)
	}
	sheets(t, look)
	large(t, look)
}

// noWorse checks that a sheet is laid as soon as another one for which there is a right plan, and each of its cells as early.
func noWorse(t *testing.T, s, other api.LaySheet, hands, others int) {
	t.Helper()
	if !isPossible(t, other, others) || mustTurns(t, other, others) > mustTurns(t, s, hands) {
		t.Fatal(s, hands, other, others)
	}
	for cell := range s.To {
		if mustEarly(t, other, others, cell) > mustEarly(t, s, hands, cell) {
			t.Fatal(s, hands, other, others, cell)
		}
	}
}

// P9.12: the fewest turns if nothing is due before the last turn.
func TestTurnsByLevels(t *testing.T) {
	look := func(s api.LaySheet, hands int) {
		s = copied(s)
		for cell := range s.Due {
			s.Due[cell] = api.MaxLayTurns
		}
		most, greatest := 0, 0
		for cell := range s.To {
			greatest = max(greatest, len(wayOf(s, cell)))
		}
		for number := range greatest {
			above := 0
			for cell := range s.To {
				if len(wayOf(s, cell)) > number {
					above++
				}
			}
			rounded := above / hands
			if above%hands > 0 {
				rounded++
			}
			most = max(most, number+rounded)
		}
		if turns := mustTurns(t, s, hands); turns != most {
			t.Fatal(s, hands, turns, most)
		}
	}
	sheets(t, func(_ dice, s api.LaySheet, hands int) { look(s, hands) })
	large(t, func(_ dice, s api.LaySheet, hands int) { look(s, hands) })
	for cells := 1; cells <= api.MaxLayCells; cells++ {
		for hands := 1; hands <= api.MaxLayHands; hands++ {
			look(row(cells, 1), hands)
			look(star(cells, 1), hands)
			look(loose(cells, 1), hands)
		}
	}
}

// P9.13: when cells of a plan are laid.
func TestBounds(t *testing.T) {
	large(t, func(d dice, s api.LaySheet, hands int) {
		if !isPossible(t, s, hands) {
			return
		}
		at := atOf(mustPlan(t, s, hands))
		last := mustLast(t, s)
		for cell := range s.To {
			early := mustEarly(t, s, hands, cell)
			if at[cell] > last[cell] || at[cell] < early || early < depthOf(s, cell) {
				t.Fatal(s, hands, cell, at, early, last)
			}
		}
	})
}

// P9.14: one turn of rest more.
func TestRest(t *testing.T) {
	look := func(d dice, s api.LaySheet, hands int) {
		if slices.Max(s.Due) == api.MaxLayTurns || !isPossible(t, s, hands) {
			return
		}
		turn := 1 + d.IntN(slices.Max(s.Due))
		later := copied(s)
		for cell, due := range s.Due {
			if due >= turn {
				later.Due[cell]++
			}
		}
		if !slices.Contains(mustRests(t, later, hands), turn) {
			t.Fatal(s, hands, turn, mustRests(t, later, hands))
		}
	}
	sheets(t, look)
	large(t, look)
}

// P9.15: as many hands as there are cells.
func TestManyHands(t *testing.T) {
	late, possible := 0, 0
	look := func(s api.LaySheet, hands int) {
		isLate := slices.Min(mustLast(t, s)) < 1
		if isPossible(t, s, hands) == isLate {
			t.Fatal(s)
		}
		if n, e := lay.Hands(s); (e == api.OK) == isLate || n > hands {
			t.Fatal(s, n, e)
		}
		if isLate {
			late++
		} else {
			possible++
		}
	}
	for n := range uint64(400) {
		d := newDice(3000 + n)
		s := d.sheet(1+d.IntN(api.MaxLayHands), 1+d.IntN(12))
		look(s, len(s.To))
	}
	tiny(3, 3, func(s api.LaySheet, _ int) { look(s, 3) })
	if late < 100 || possible < 100 {
		t.Error(late, possible)
	}
}

// P9.4, P9.6, P9.7 and P9.8 for sheets of many cells: what is told is right, and cells crowd where anything better is asked for.
func TestGreatest(t *testing.T) {
	rested, worked := 0, 0
	look := func(s api.LaySheet, hands int) {
		if !isPossible(t, s, hands) {
			return
		}
		turns := mustTurns(t, s, hands)
		if plan := mustPlan(t, s, hands); len(plan) != turns {
			t.Fatal(s, hands, plan, turns)
		}
		sooner := copied(s)
		for cell, due := range s.Due {
			sooner.Due[cell] = min(due, turns-1)
		}
		if crowdOf(sooner, hands) < 0 {
			t.Fatal(s, hands, turns)
		}
		for cell := range s.To {
			early := mustEarly(t, s, hands, cell)
			mustPlan(t, withDue(s, cell, early), hands)
			if crowdOf(withDue(s, cell, early-1), hands) < 0 {
				t.Fatal(s, hands, cell, early)
			}
		}
		rests := mustRests(t, s, hands)
		for turn := 1; turn <= slices.Max(s.Due); turn++ {
			at := restedAt(s, hands, turn)
			isRest := isRight(s, hands, at) && !slices.Contains(at, turn)
			if isRest != slices.Contains(rests, turn) || isRest == restCrowds(s, hands, turn) {
				t.Fatal(s, hands, turn, rests, at)
			}
			if isRest {
				rested++
			} else {
				worked++
			}
		}
	}
	large(t, func(_ dice, s api.LaySheet, hands int) { look(s, hands) })
	if rested < 100 || worked < 100 {
		t.Error(rested, worked)
	}
}

// restLast returns the last turn of a cell if no cell is laid in a turn.
func restLast(s api.LaySheet, cell, rest int) int {
	last := s.Due[cell]
	if to := s.To[cell]; to >= 0 {
		last = min(last, restLast(s, to, rest)-1)
	}
	if last == rest {
		last--
	}
	return last
}

// restCrowds tells whether cells crowd in some turn if no cell is laid in another one.
func restCrowds(s api.LaySheet, hands, rest int) bool {
	for turn := range api.MaxLayTurns + 1 {
		laid := turn
		if rest <= turn {
			laid--
		}
		many := 0
		for cell := range s.To {
			if restLast(s, cell, rest) <= turn {
				many++
			}
		}
		if many > hands*laid {
			return true
		}
	}
	return false
}

// restedAt lays a sheet turn by turn, but for one, and returns the turn of each cell.
func restedAt(s api.LaySheet, hands, rest int) []int {
	at := make([]int, len(s.To))
	for turn := 1; slices.Contains(at, 0); turn++ {
		if turn == rest {
			continue
		}
		var free []int
		for cell := range s.To {
			isFree := at[cell] == 0
			for other, to := range s.To {
				isFree = isFree && (to != cell || at[other] > 0)
			}
			if isFree {
				free = append(free, cell)
			}
		}
		slices.SortFunc(free, func(a, b int) int { return restLast(s, a, rest) - restLast(s, b, rest) })
		for _, cell := range free[:min(hands, len(free))] {
			at[cell] = turn
		}
	}
	return at
}
