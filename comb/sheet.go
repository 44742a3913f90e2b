package comb

import (
	"iter"
	"slices"

	"oxgall/api"
	"oxgall/lists"
)

// marks tells of each mark whether a row has it, by 1 or 0. A row that does not
// fit has none, and one that fits has some.
type marks [api.MaxCombMarks]int

func (m marks) has(mark int) bool { return m[mark] == 1 }

// set returns marks as bits, by which tables are indexed.
func (m marks) set() int {
	set := 0
	for mark, bit := range m {
		set |= bit << mark
	}
	return set
}

// fit is a row that fits, with the marks that it has.
type fit struct {
	api.CombRow
	marks
}

// sheet is a valid sheet with all rows that fit, by their Combs, and then by their Ats.
type sheet struct {
	api.CombSheet
	fits []fit
}

// opened returns a sheet with its rows, if it is valid.
func opened(s api.CombSheet) (*sheet, api.Errno) {
	if e := CheckSheet(s); e != api.OK {
		return nil, e
	}
	return &sheet{s, slices.Collect(rows(s))}, api.OK
}

// openedWhole returns a sheet with its rows, if it is valid and no mark is lost.
func openedWhole(s api.CombSheet) (*sheet, api.Errno) {
	o, e := opened(s)
	if e != api.OK {
		return nil, e
	}
	if len(o.missed(o.fits)) > 0 {
		return nil, api.ErrTooth
	}
	return o, api.OK
}

// areMarks tells whether ranges are marks.
func areMarks(ranges []api.Range) bool {
	from := int64(0)
	for _, r := range ranges {
		if !lists.Within(from, api.MaxCombWide, r.Lo, r.Hi) || !lists.Within(0, api.MaxCombOff, r.Hi-r.Lo) {
			return false
		}
		from = r.Hi + 1
	}
	return true
}

// rows yields the rows of a valid sheet that fit, by their Combs, and then by
// their Ats. The first tooth of each is in a mark, so no other Ats are looked at.
func rows(s api.CombSheet) iter.Seq[fit] {
	return func(yield func(fit) bool) {
		for comb := range s.Combs {
			for _, mark := range s.Marks {
				for at := mark.Lo; at <= mark.Hi; at++ {
					row := api.CombRow{Comb: comb, At: at}
					m := had(s, row)
					if m != (marks{}) && !yield(fit{row, m}) {
						return
					}
				}
			}
		}
	}
}

// had returns the marks that a row of a valid sheet has, if it fits.
func had(s api.CombSheet, row api.CombRow) marks {
	var m marks
	comb := s.Combs[row.Comb]
	for tooth := range comb.Teeth {
		at := row.At + int64(tooth)*comb.Space
		mark := lists.First(s.Marks, func(r api.Range) bool { return lists.Within(r.Lo, r.Hi, at) })
		if mark == len(s.Marks) {
			clear(m[:])
			break
		}
		m[mark] = 1
	}
	return m
}

// areCombs tells whether all rows are rows of combs of a sheet.
func (s *sheet) areCombs(rows ...api.CombRow) bool {
	strange := func(r api.CombRow) bool { return r.Comb < 0 || r.Comb >= len(s.Combs) }
	return lists.First(rows, strange) == len(rows)
}

// fitting returns those of some rows that fit.
func (s *sheet) fitting(rows ...api.CombRow) []fit {
	var out []fit
	for _, row := range rows {
		i := lists.First(s.fits, func(f fit) bool { return f.CombRow == row })
		if i < len(s.fits) {
			out = append(out, s.fits[i])
		}
	}
	return out
}

// those returns the marks that are good, increasing.
func (s *sheet) those(good func(mark int) bool) []int {
	var out []int
	for mark := range s.Marks {
		if good(mark) {
			out = append(out, mark)
		}
	}
	return out
}

// missed returns the marks that none of some rows has.
func (s *sheet) missed(fits []fit) []int {
	return s.those(func(mark int) bool {
		return lists.First(fits, func(f fit) bool { return f.has(mark) }) == len(fits)
	})
}

// areApart tells whether no row that fits has two of a list of marks.
func (s *sheet) areApart(list []int) bool {
	crowded := func(f fit) bool {
		n := 0
		for _, mark := range list {
			n += f.marks[mark]
		}
		return n > 1
	}
	return lists.First(s.fits, crowded) == len(s.fits)
}

// lists yields all strictly increasing lists of so many marks, in lexicographic order.
func (s *sheet) lists(long int) iter.Seq[[]int] {
	return func(yield func([]int) bool) {
		var grow func(list []int, from int) bool
		grow = func(list []int, from int) bool {
			if len(list) == long {
				return yield(list)
			}
			for mark := from; mark < len(s.Marks); mark++ {
				// Several lists begin with the same marks, so the capacity is cut.
				if !grow(append(list[:len(list):len(list)], mark), mark+1) {
					return false
				}
			}
			return true
		}
		grow(nil, 0)
	}
}
