package lay_test

import (
	"math/rand/v2"
	"slices"
	"testing"

	"oxgall/api"
	"oxgall/lay"
)

func of(l ...int) []int { return l }

func turns(l ...[]int) [][]int { return l }

func sheet(to, due []int) api.LaySheet { return api.LaySheet{To: to, Due: due} }

// alike returns a sheet all cells of which are due in the same turn.
func alike(due int, to ...int) api.LaySheet { return sheet(to, slices.Repeat(of(due), len(to))) }

// chapterS, chapterU and chapterV are the sheets of the chapter's examples.
func chapterS() api.LaySheet { return alike(5, 2, 2, 6, 5, 5, 6, -1) }

func chapterU() api.LaySheet { return alike(4, 2, 2, 6, 5, 5, 6, -1) }

func chapterV() api.LaySheet { return alike(3, 2, 2, 6, 5, 5, 6, -1) }

// row returns a sheet in which each cell leads to the next one.
func row(cells, due int) api.LaySheet {
	s := loose(cells, due)
	for cell := range cells - 1 {
		s.To[cell] = cell + 1
	}
	return s
}

// star returns a sheet in which all cells lead to the last one.
func star(cells, due int) api.LaySheet {
	s := loose(cells, due)
	for cell := range cells - 1 {
		s.To[cell] = cells - 1
	}
	return s
}

// loose returns a sheet in which no cell leads to another one.
func loose(cells, due int) api.LaySheet { return alike(due, slices.Repeat(of(-1), cells)...) }

func copied(s api.LaySheet) api.LaySheet { return sheet(slices.Clone(s.To), slices.Clone(s.Due)) }

// withDue returns a sheet in which a cell has another Due.
func withDue(s api.LaySheet, cell, due int) api.LaySheet {
	s = copied(s)
	s.Due[cell] = due
	return s
}

// withTo returns a sheet in which a cell has another To.
func withTo(s api.LaySheet, cell, to int) api.LaySheet {
	s = copied(s)
	s.To[cell] = to
	return s
}

// wayOf returns the cells on the way from a cell, itself the first one.
func wayOf(s api.LaySheet, cell int) []int {
	var way []int
	for ; cell != -1; cell = s.To[cell] {
		way = append(way, cell)
	}
	return way
}

// lastOf returns the last turn of a cell: so many turns before that of each one on its way as there are steps.
func lastOf(s api.LaySheet, cell int) int {
	last := s.Due[cell]
	for steps, other := range wayOf(s, cell) {
		last = min(last, s.Due[other]-steps)
	}
	return last
}

// depthOf returns how many cells lead to a cell, one after another, and itself.
func depthOf(s api.LaySheet, cell int) int {
	depth := 1
	for other := range s.To {
		if i := slices.Index(wayOf(s, other), cell); i >= 0 {
			depth = max(depth, i+1)
		}
	}
	return depth
}

// dueUpTo returns how many cells have a last turn up to a turn.
func dueUpTo(s api.LaySheet, turn int) int {
	many := 0
	for cell := range s.To {
		if lastOf(s, cell) <= turn {
			many++
		}
	}
	return many
}

// crowdOf returns the least turn in which cells crowd, or -1.
func crowdOf(s api.LaySheet, hands int) int {
	for turn := range api.MaxLayTurns + 1 {
		if dueUpTo(s, turn) > hands*turn {
			return turn
		}
	}
	return -1
}

// isRight tells whether a turn for each cell makes a right plan.
func isRight(s api.LaySheet, hands int, at []int) bool {
	var laid [api.MaxLayTurns + 1]int
	for cell, to := range s.To {
		laid[at[cell]]++
		if laid[at[cell]] > hands || at[cell] > s.Due[cell] || to >= 0 && at[cell] >= at[to] {
			return false
		}
	}
	return true
}

// placed calls a function with all lists of turns, one for each cell, up to a highest one.
func placed(cells, highest int, look func(at []int)) {
	at := make([]int, cells)
	var grow func(cell int)
	grow = func(cell int) {
		if cell == cells {
			look(at)
			return
		}
		for turn := range highest {
			at[cell] = turn + 1
			grow(cell + 1)
		}
	}
	grow(0)
}

// rightOf returns the turns of all cells in all right plans.
func rightOf(s api.LaySheet, hands int) [][]int {
	var all [][]int
	placed(len(s.To), slices.Max(s.Due), func(at []int) {
		if isRight(s, hands, at) {
			all = append(all, slices.Clone(at))
		}
	})
	return all
}

// planOf returns the plan in which each cell has a turn.
func planOf(at []int) [][]int {
	plan := make([][]int, slices.Max(at))
	for cell, turn := range at {
		plan[turn-1] = append(plan[turn-1], cell)
	}
	return plan
}

// atOf returns the turn of each cell in a plan that has each once.
func atOf(plan [][]int) []int {
	at := make([]int, len(slices.Concat(plan...)))
	for i, cells := range plan {
		for _, cell := range cells {
			at[cell] = i + 1
		}
	}
	return at
}

// dice makes sheets, the same in each run.
type dice struct{ *rand.Rand }

func newDice(n uint64) dice { return dice{rand.New(rand.NewPCG(n, 9))} }

// sheet returns a sheet of so many cells whose Dues are from 1 to a highest one.
func (d dice) sheet(cells, highest int) api.LaySheet {
	s := loose(cells, highest)
	name := d.Perm(cells)
	roots := 2 + d.IntN(4)
	for i := range cells {
		// a cell leads to one that comes earlier in the row of names, so none lead back
		if i > 0 && d.IntN(roots) > 0 {
			s.To[name[i]] = name[i-1-d.IntN(min(i, 1+d.IntN(cells)))]
		}
		s.Due[i] = highest - d.IntN(1+d.IntN(highest))
	}
	return s
}

// small returns a sheet of a few cells.
func (d dice) small() api.LaySheet { return d.sheet(1+d.IntN(5), 1+d.IntN(5)) }

// sheets calls a function with many small sheets, each for some hands.
func sheets(t *testing.T, look func(d dice, s api.LaySheet, hands int)) {
	t.Helper()
	for n := range uint64(600) {
		d := newDice(n)
		s := d.small()
		if e := lay.CheckSheet(s); e != api.OK {
			t.Fatal("not a valid sheet", s, e)
		}
		look(d, s, 1+d.IntN(3))
	}
}

// tiny calls a function with all sheets of so many cells whose Dues are up to a highest one, for one hand and two.
func tiny(cells, highest int, look func(s api.LaySheet, hands int)) {
	s := loose(cells, 1)
	var grow func(cell int)
	grow = func(cell int) {
		if cell == cells {
			if lay.CheckSheet(s) != api.OK {
				return
			}
			placed(cells, highest, func(due []int) {
				for hands := 1; hands <= 2; hands++ {
					look(sheet(slices.Clone(s.To), slices.Clone(due)), hands)
				}
			})
			return
		}
		for to := -1; to < cells; to++ {
			s.To[cell] = to
			grow(cell + 1)
		}
	}
	grow(0)
}

// large calls a function with sheets of many cells, each for some hands.
func large(t *testing.T, look func(d dice, s api.LaySheet, hands int)) {
	t.Helper()
	for n := range uint64(300) {
		d := newDice(7000 + n)
		cells := 6 + d.IntN(25)
		hands := 1 + d.IntN(api.MaxLayHands)
		s := d.sheet(cells, min(api.MaxLayTurns, 4+cells/hands+d.IntN(10)))
		if e := lay.CheckSheet(s); e != api.OK {
			t.Fatal("not a valid sheet", s, e)
		}
		look(d, s, hands)
	}
}

// mustPlan returns a plan, if it is right and its turns are increasing.
func mustPlan(t *testing.T, s api.LaySheet, hands int) [][]int {
	t.Helper()
	plan, e := lay.Plan(s, hands)
	if e != api.OK || lay.CheckPlan(s, hands, plan) != api.OK || !isRight(s, hands, atOf(plan)) {
		t.Fatal(s, hands, plan, e)
	}
	for _, cells := range plan {
		if !slices.IsSorted(cells) {
			t.Fatal(s, hands, plan)
		}
	}
	return plan
}

// isPossible tells whether there is a right plan, as Plan tells it.
func isPossible(t *testing.T, s api.LaySheet, hands int) bool {
	t.Helper()
	plan, e := lay.Plan(s, hands)
	if e != api.OK && (e != api.ErrPlan || len(plan) > 0) {
		t.Fatal(s, hands, plan, e)
	}
	return e == api.OK
}

func mustTurns(t *testing.T, s api.LaySheet, hands int) int {
	t.Helper()
	turns, e := lay.Turns(s, hands)
	if e != api.OK {
		t.Fatal(s, hands, e)
	}
	return turns
}

func mustEarly(t *testing.T, s api.LaySheet, hands, cell int) int {
	t.Helper()
	early, e := lay.Early(s, hands, cell)
	if e != api.OK {
		t.Fatal(s, hands, cell, e)
	}
	return early
}

func mustRests(t *testing.T, s api.LaySheet, hands int) []int {
	t.Helper()
	rests, e := lay.Rests(s, hands)
	if e != api.OK {
		t.Fatal(s, hands, e)
	}
	return rests
}

func mustLast(t *testing.T, s api.LaySheet) []int {
	t.Helper()
	last, e := lay.Last(s)
	if e != api.OK {
		t.Fatal(s, e)
	}
	return last
}
