package lay

import (
	"iter"
	"slices"

	"oxgall/api"
	"oxgall/lists"
)

// spot is a cell in a turn of a plan.
type spot struct{ cell, turn int }

// spots yields all cells of a plan, turn by turn.
func spots(plan [][]int) iter.Seq[spot] {
	return func(yield func(spot) bool) {
		for i, cells := range plan {
			for _, cell := range cells {
				if !yield(spot{cell, i + 1}) {
					return
				}
			}
		}
	}
}

// has tells whether a plan has a cell in a turn.
func has(plan [][]int, wanted spot) bool {
	for s := range spots(plan) {
		if s == wanted {
			return true
		}
	}
	return false
}

// planned returns the turn of each cell, if a plan has each cell just once.
func (s *sheet) planned(plan [][]int) (turns, api.Errno) {
	if len(plan) > api.MaxLayTurns {
		return turns{}, api.ErrMany
	}
	var turn turns // 0 for cells that have not come yet
	for next := range spots(plan) {
		if !s.isCell(next.cell) || turn[next.cell] != 0 {
			return turns{}, api.ErrEqual
		}
		turn[next.cell] = next.turn
	}
	if slices.Contains(turn[:len(s.To)], 0) {
		return turns{}, api.ErrEqual
	}
	return turn, api.OK
}

// work is a sheet that is being laid: the cells that wait, and marks for those that
// still had to wait for other ones when the turn began.
type work struct {
	*sheet
	waits map[int]bool
	held  []bool
	row   [api.MaxLayHands]int // where each turn grows
}

// plan returns a plan in which the hands lay, in each turn, those cells whose last
// turns come first. If it is not right, cells crowd: take the first turn in which a
// cell is laid too late, and look at all cells whose last turns are no later than that
// of this one. Had a hand laid none of them in a turn before, then all that could be
// laid were laid there, and from then on each right behind one that leads to it; so
// the one right before the late cell would be too late already. So all hands lay only
// such cells until then, and still one is left. (P9.10)
func (s *sheet) plan() [][]int {
	w := &work{sheet: s, waits: map[int]bool{}, held: make([]bool, len(s.To))}
	for cell := range s.To {
		w.waits[cell] = true
	}
	var plan [][]int
	for len(w.waits) > 0 {
		plan = append(plan, w.turn())
	}
	return plan
}

// hold marks all cells that have to wait for other ones.
func (w *work) hold() {
	clear(w.held)
	for cell, next := range w.To {
		if next >= 0 && w.waits[cell] {
			w.held[next] = true
		}
	}
}

// free yields all cells that can be laid in this turn.
func (w *work) free() iter.Seq[int] {
	return func(yield func(int) bool) {
		for cell, held := range w.held {
			if w.waits[cell] && !held && !yield(cell) {
				return
			}
		}
	}
}

// isBefore tells whether the last turn of a cell comes before that of another one.
func (w *work) isBefore(one, two int) bool { return w.last[one] < w.last[two] }

// turn lays the cells of a turn.
func (w *work) turn() []int {
	w.hold()
	turn := w.row[:0:w.hands]
	for range w.hands {
		cell, found := lists.Least(w.free(), w.isBefore)
		if !found {
			break
		}
		turn = append(turn, cell)
		delete(w.waits, cell)
	}
	slices.Sort(turn)
	// The next turn grows in the same memory.
	laid := make([]int, len(turn))
	copy(laid, turn)
	return laid
}
