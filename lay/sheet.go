package lay

import (
	"oxgall/api"
	"oxgall/lists"
)

// turns is a turn for each cell.
type turns [api.MaxLayCells]int

// sheet is a valid sheet with how many hands lay it, and with the last turns of its cells.
type sheet struct {
	api.LaySheet
	hands int
	last  turns
}

// opened returns a sheet with the last turns of its cells, if it is valid.
func opened(s api.LaySheet) (*sheet, api.Errno) {
	if e := CheckSheet(s); e != api.OK {
		return nil, e
	}
	due := func(cell int) int { return s.Due[cell] }
	return &sheet{LaySheet: s, last: lastTurns(s.To, due)}, api.OK
}

// openedFor returns a sheet that some hands lay, if both are valid.
func openedFor(s api.LaySheet, hands int) (*sheet, api.Errno) {
	o, e := opened(s)
	switch {
	case e != api.OK:
		return nil, e
	case !lists.Within(1, api.MaxLayHands, hands):
		return nil, api.ErrArg
	}
	return o.by(hands), api.OK
}

// openedRight returns a sheet that some hands lay, if there is a right plan.
func openedRight(s api.LaySheet, hands int) (*sheet, api.Errno) {
	o, e := openedFor(s, hands)
	switch {
	case e != api.OK:
		return nil, e
	case !o.isPossible():
		return nil, api.ErrPlan
	}
	return o, api.OK
}

func (s *sheet) isCell(cell int) bool { return 0 <= cell && cell < len(s.To) }

// all returns all cells that are meant, increasing.
func (s *sheet) all(isMeant func(cell int) bool) []int {
	var all []int
	for cell := range s.To {
		if isMeant(cell) {
			all = append(all, cell)
		}
	}
	return all
}

// every tells whether all cells are good.
func (s *sheet) every(isGood func(cell int) bool) bool { return len(s.all(isGood)) == len(s.To) }

// areOthers tells whether each cell leads to another cell, or to none.
func areOthers(to []int) bool {
	for cell, next := range to {
		if next == cell || !lists.Within(-1, len(to)-1, next) {
			return false
		}
	}
	return true
}

// level returns the level of a cell. Only where cells lead back it is greater than
// how many cells there are.
func level(to []int, cell int) int {
	level := 0
	for cell >= 0 && level <= len(to) {
		cell = to[cell]
		level++
	}
	return level
}

// leadBack tells whether some cells lead back to the first one of them.
func leadBack(to []int) bool {
	for cell := range to {
		if level(to, cell) > len(to) {
			return true
		}
	}
	return false
}

// lastTurns returns the last turns that cells have if they are due in some turns.
// In each round cells learn what the round before told of those that they lead to.
func lastTurns(to []int, due func(cell int) int) turns {
	var now turns
	for cell := range to {
		now[cell] = due(cell)
	}
	for {
		before := now
		for cell, next := range to {
			if next >= 0 {
				now[cell] = min(now[cell], before[next]-1)
			}
		}
		if now == before {
			return now
		}
	}
}

// by returns a sheet that some hands lay.
func (s *sheet) by(hands int) *sheet { return &sheet{s.LaySheet, hands, s.last} }

// with returns a sheet with other last turns, those of cells that are due in some turns.
func (s *sheet) with(due func(cell int) int) *sheet {
	return &sheet{s.LaySheet, s.hands, lastTurns(s.To, due)}
}

// until returns a sheet in which those cells that are meant are due up to a turn.
func (s *sheet) until(turn int, isMeant func(cell int) bool) *sheet {
	return s.with(func(cell int) int {
		if isMeant(cell) {
			return min(s.Due[cell], turn)
		}
		return s.Due[cell]
	})
}

// resting returns a sheet of which a right plan becomes one of this sheet if a turn
// without cells is put in: what is due from this turn on has one turn less.
func (s *sheet) resting(turn int) *sheet {
	return s.with(func(cell int) int {
		if s.Due[cell] >= turn {
			return s.Due[cell] - 1
		}
		return s.Due[cell]
	})
}

// first returns the first number from low to high that is good, if there is one.
func first(low, high int, isGood func(n int) bool) (int, bool) {
	least, found := 0, false
search:
	for n := low; n <= high; n++ {
		if isGood(n) {
			least, found = n, true
			break search
		}
	}
	return least, found
}

// crowds tells whether cells crowd in a turn.
func (s *sheet) crowds(turn int) bool {
	hasToBeLaid := func(cell int) bool { return s.last[cell] <= turn }
	return len(s.all(hasToBeLaid)) > s.hands*turn
}

// crowd returns the least turn in which cells crowd, if there is one.
func (s *sheet) crowd() (int, bool) { return first(0, api.MaxLayTurns, s.crowds) }

// isPossible tells whether there is a right plan. (P9.10)
func (s *sheet) isPossible() bool {
	_, crowded := s.crowd()
	return !crowded
}

// soonest returns up to which turn all cells that are meant can be laid, if there is
// a right plan.
func (s *sheet) soonest(isMeant func(cell int) bool) int {
	soonest, _ := first(1, api.MaxLayTurns, func(turn int) bool { return s.until(turn, isMeant).isPossible() })
	return soonest
}
