package comb_test

import (
	"math/rand/v2"
	"slices"
	"testing"

	"oxgall/api"
	"oxgall/comb"
)

func span(lo, hi int64) api.Range { return api.Range{Lo: lo, Hi: hi} }

// kinds returns combs: of each its Space and how many Teeth it has.
func kinds(numbers ...int64) []api.CombKind {
	var out []api.CombKind
	for i := 0; i < len(numbers); i += 2 {
		out = append(out, api.CombKind{Space: numbers[i], Teeth: int(numbers[i+1])})
	}
	return out
}

// spans returns marks: of each its ends.
func spans(numbers ...int64) []api.Range {
	var out []api.Range
	for i := 0; i < len(numbers); i += 2 {
		out = append(out, span(numbers[i], numbers[i+1]))
	}
	return out
}

// lone returns n marks of which each reaches so far, and none is beside another one.
func lone(n int, off int64) []api.Range {
	var out []api.Range
	for i := range int64(n) {
		out = append(out, span(10*i, 10*i+off))
	}
	return out
}

// chapterS and chapterT are the sheets S and T of the chapter's examples.
func chapterS() api.CombSheet {
	return api.CombSheet{Combs: kinds(10, 3, 15, 2), Marks: spans(5, 6, 15, 15, 20, 22, 25, 26, 35, 37)}
}

func chapterT() api.CombSheet {
	return api.CombSheet{Combs: kinds(10, 3), Marks: chapterS().Marks}
}

// triangle is a sheet of which each two marks are had by one row.
func triangle() api.CombSheet {
	return api.CombSheet{Combs: kinds(10, 2, 20, 2), Marks: spans(0, 0, 10, 10, 20, 20)}
}

// crowd is a sheet with so many combs that have two teeth in one mark.
func crowd(combs, marks int, off int64) api.CombSheet {
	return api.CombSheet{Combs: slices.Repeat(kinds(1, 2), combs), Marks: lone(marks, off)}
}

// of returns a list of marks, at a row, and ats a list of rows: of each its Comb and its At.
func of(l ...int) []int { return l }

func at(comb int, n int64) api.CombRow { return api.CombRow{Comb: comb, At: n} }

func ats(numbers ...int64) []api.CombRow {
	var out []api.CombRow
	for i := 0; i < len(numbers); i += 2 {
		out = append(out, at(int(numbers[i]), numbers[i+1]))
	}
	return out
}

func copied(s api.CombSheet) api.CombSheet {
	s.Combs, s.Marks = slices.Clone(s.Combs), slices.Clone(s.Marks)
	return s
}

func equalSheets(a, b api.CombSheet) bool {
	return slices.Equal(a.Combs, b.Combs) && slices.Equal(a.Marks, b.Marks)
}

// dice makes sheets, the same in each run.
type dice struct{ *rand.Rand }

func newDice(n uint64) dice { return dice{rand.New(rand.NewPCG(n, 3))} }

// sheet returns a small valid sheet: its marks are those of some rows of its
// combs, known more or less well, and at times one more.
func (d dice) sheet() api.CombSheet {
	var s api.CombSheet
	for range 1 + d.IntN(3) {
		s.Combs = append(s.Combs, api.CombKind{Space: 1 + d.Int64N(8), Teeth: 2 + d.IntN(3)})
	}
	var teeth []int64
	for range 1 + d.IntN(4) {
		c := s.Combs[d.IntN(len(s.Combs))]
		from := 10 + d.Int64N(25)
		for i := range c.Teeth {
			teeth = append(teeth, from+int64(i)*c.Space)
		}
	}
	if d.IntN(4) == 0 {
		teeth = append(teeth, d.Int64N(70))
	}
	slices.Sort(teeth)
	last := int64(-1)
	for _, n := range teeth {
		if n <= last || len(s.Marks) == 9 {
			continue
		}
		m := span(max(n-d.Int64N(2)*d.Int64N(2), last+1), n+d.Int64N(2)*d.Int64N(3))
		s.Marks = append(s.Marks, m)
		last = m.Hi
	}
	return s
}

// sheets calls a function with many small valid sheets, and some that are not made by dice.
func sheets(t *testing.T, look func(d dice, s api.CombSheet)) {
	t.Helper()
	for i, s := range []api.CombSheet{chapterS(), chapterT(), triangle(), crowd(2, 3, 2), crowd(1, 2, 0)} {
		look(newDice(uint64(1000+i)), s)
	}
	for n := range uint64(500) {
		d := newDice(n)
		s := d.sheet()
		if e := comb.CheckSheet(s); e != api.OK {
			t.Fatal("not a valid sheet", s, e)
		}
		look(d, s)
	}
}

// hadBy returns the marks that a row has, and whether it fits.
func hadBy(s api.CombSheet, row api.CombRow) ([]int, bool) {
	teeth, inside := s.Combs[row.Comb].Teeth, 0
	var out []int
	for mark, m := range s.Marks {
		some := false
		for i := range teeth {
			n := row.At + int64(i)*s.Combs[row.Comb].Space
			if m.Lo <= n && n <= m.Hi {
				some = true
				inside++
			}
		}
		if some {
			out = append(out, mark)
		}
	}
	return out, inside == teeth
}

// allRows returns all rows that fit, by their Combs, and then by their Ats.
func allRows(s api.CombSheet) []api.CombRow {
	var out []api.CombRow
	for c := range s.Combs {
		for n := int64(-5); n <= api.MaxCombWide+5; n++ {
			if _, fits := hadBy(s, at(c, n)); fits {
				out = append(out, at(c, n))
			}
		}
	}
	return out
}

// bitsOf returns the marks that a row has as bits.
func bitsOf(s api.CombSheet, row api.CombRow) int {
	bits := 0
	had, _ := hadBy(s, row)
	for _, mark := range had {
		bits |= 1 << mark
	}
	return bits
}

// explain tells whether each mark is had by one of some rows.
func explain(s api.CombSheet, rows []api.CombRow) bool {
	bits := 0
	for _, r := range rows {
		bits |= bitsOf(s, r)
	}
	return bits == 1<<len(s.Marks)-1
}

// allBest returns, by looking at all lists of rows, all best rows of a sheet.
func allBest(s api.CombSheet) [][]api.CombRow {
	all := allRows(s)
	var bits []int
	for _, r := range all {
		bits = append(bits, bitsOf(s, r))
	}
	var out [][]api.CombRow
	var grow func(rows []api.CombRow, had, from, more int)
	grow = func(rows []api.CombRow, had, from, more int) {
		if more == 0 {
			if had == 1<<len(s.Marks)-1 {
				out = append(out, slices.Clone(rows))
			}
			return
		}
		for i := from; i < len(all); i++ {
			grow(append(rows, all[i]), had|bits[i], i+1, more-1)
		}
	}
	for n := 1; n <= min(len(all), len(s.Marks)) && out == nil; n++ {
		grow(nil, 0, 0, n)
	}
	return out
}

// together tells whether a row that fits has two of some marks.
func together(s api.CombSheet, marks []int) bool {
	for _, r := range allRows(s) {
		n := 0
		had, _ := hadBy(s, r)
		for _, mark := range had {
			if slices.Contains(marks, mark) {
				n++
			}
		}
		if n > 1 {
			return true
		}
	}
	return false
}

// kindOf returns the kind of a row by all best rows.
func kindOf(best [][]api.CombRow, row api.CombRow) int {
	n := 0
	for _, rows := range best {
		if slices.Contains(rows, row) {
			n++
		}
	}
	switch n {
	case 0:
		return api.CombNever
	case len(best):
		return api.CombAlways
	}
	return api.CombMay
}

func mustBest(t *testing.T, s api.CombSheet) []api.CombRow {
	t.Helper()
	rows, e := comb.Best(s)
	if e != api.OK {
		t.Fatal(s, e)
	}
	return rows
}

func mustKind(t *testing.T, s api.CombSheet, row api.CombRow) int {
	t.Helper()
	k, e := comb.Kind(s, row)
	if e != api.OK {
		t.Fatal(s, row, e)
	}
	return k
}

func mustLost(t *testing.T, s api.CombSheet) []int {
	t.Helper()
	lost, e := comb.Lost(s)
	if e != api.OK {
		t.Fatal(s, e)
	}
	return lost
}

func mustCount(t *testing.T, s api.CombSheet) int64 {
	t.Helper()
	n, e := comb.Count(s)
	if e != api.OK {
		t.Fatal(s, e)
	}
	return n
}
