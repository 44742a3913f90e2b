package comb_test

import (
	"slices"
	"testing"

	"oxgall/api"
	"oxgall/comb"
)

// P3.2 to P3.4: rows that fit, and what they have, are those that looking at all numbers finds.
func TestRowsByAll(t *testing.T) {
	sheets(t, func(_ dice, s api.CombSheet) {
		lost := map[int]bool{}
		for mark := range s.Marks {
			lost[mark] = true
		}
		for c := range s.Combs {
			var places []int64
			for n := int64(-3); n <= 100; n++ {
				want, fits := hadBy(s, at(c, n))
				l, e := comb.Has(s, at(c, n))
				if fits && (e != api.OK || !slices.Equal(l, want)) || !fits && (e != api.ErrTooth || len(l) > 0) {
					t.Fatal(s, c, n, l, e)
				}
				if fits {
					places = append(places, n)
				}
				for _, mark := range l {
					delete(lost, mark)
				}
			}
			if l, e := comb.Places(s, c); e != api.OK || !slices.Equal(l, places) {
				t.Fatal(s, c, l, e, places)
			}
		}
		l := mustLost(t, s)
		if len(l) != len(lost) || !slices.IsSorted(l) || slices.ContainsFunc(l, func(mark int) bool { return !lost[mark] }) {
			t.Fatal(s, l, lost)
		}
	})
}

// P3.5, P3.7 and P3.8: best rows, their number and kinds are those that looking at all lists of rows finds.
func TestBestByAll(t *testing.T) {
	sheets(t, func(_ dice, s api.CombSheet) {
		all := allBest(s)
		best, e := comb.Best(s)
		n, f := comb.Count(s)
		if len(all) == 0 {
			if e != api.ErrTooth || f != api.ErrTooth || len(best) > 0 || n != 0 {
				t.Fatal(s, best, e, n, f)
			}
			return
		}
		if e != api.OK || f != api.OK || n != int64(len(all)) {
			t.Fatal(s, best, e, n, f, all)
		}
		if !slices.ContainsFunc(all, func(rows []api.CombRow) bool { return slices.Equal(rows, best) }) {
			t.Fatal(s, best, all)
		}
		for c := range s.Combs {
			for n := int64(-3); n <= 100; n++ {
				if k := mustKind(t, s, at(c, n)); k != kindOf(all, at(c, n)) {
					t.Fatal(s, c, n, k, all)
				}
			}
		}
	})
}

// P3.5: rows explain a sheet just if they are different, fit, and have all marks.
func TestCheckRowsByAll(t *testing.T) {
	sheets(t, func(d dice, s api.CombSheet) {
		all := allRows(s)
		for range 30 {
			var rows []api.CombRow
			for range d.IntN(5) {
				if len(all) > 0 && d.IntN(9) > 0 {
					rows = append(rows, all[d.IntN(len(all))])
				} else if d.IntN(2) == 0 {
					rows = append(rows, at(d.IntN(len(s.Combs)), d.Int64N(40)))
				}
			}
			want := api.OK
			loose := func(r api.CombRow) bool { return !slices.Contains(all, r) }
			switch different := map[api.CombRow]bool{}; {
			case slices.ContainsFunc(rows, loose):
				want = api.ErrTooth
			default:
				for _, r := range rows {
					different[r] = true
				}
				if len(different) < len(rows) {
					want = api.ErrEqual
				} else if !explain(s, rows) {
					want = api.ErrRule
				}
			}
			if e := comb.CheckRows(s, rows); e != want {
				t.Fatal(s, rows, e, want)
			}
		}
	})
}

// P3.6: of all lists of marks those that no row has two of are apart, and the longest one is found.
func TestApartByAll(t *testing.T) {
	sheets(t, func(_ dice, s api.CombSheet) {
		if len(s.Marks) > 7 {
			return
		}
		var best []int
		for set := range 1 << len(s.Marks) {
			var list []int
			for mark := range s.Marks {
				if set>>mark&1 == 1 {
					list = append(list, mark)
				}
			}
			want := api.OK
			if together(s, list) {
				want = api.ErrSum
			} else if len(list) > len(best) || len(list) == len(best) && slices.Compare(list, best) < 0 {
				best = list
			}
			if e := comb.CheckApart(s, list); e != want {
				t.Fatal(s, list, e, want)
			}
		}
		if l, e := comb.Apart(s); e != api.OK || !slices.Equal(l, best) {
			t.Fatal(s, l, e, best)
		}
	})
}

// P3.11 and P3.12
func TestFewestAndEither(t *testing.T) {
	fewer := 0
	sheets(t, func(_ dice, s api.CombSheet) {
		apart, _ := comb.Apart(s)
		best, e := comb.Best(s)
		all := allRows(s)
		switch lost := mustLost(t, s); {
		case len(lost) > 0:
			if e != api.ErrTooth || len(all) <= api.MaxCombRows && comb.CheckRows(s, all) != api.ErrRule {
				t.Fatal(s, lost, best, e)
			}
		case e != api.OK || comb.CheckRows(s, best) != api.OK || len(best) < len(apart):
			t.Fatal(s, best, e, apart)
		case len(best) > len(apart):
			fewer++
		}
	})
	if fewer == 0 {
		t.Error("in no sheet fewer marks are apart than best rows")
	}
}

// P3.13: with one comb more.
func TestOneCombMore(t *testing.T) {
	sheets(t, func(d dice, s api.CombSheet) {
		more := copied(s)
		more.Combs = append(more.Combs, api.CombKind{Space: 1 + d.Int64N(12), Teeth: 2 + d.IntN(3)})
		lost := mustLost(t, s)
		for _, mark := range mustLost(t, more) {
			if !slices.Contains(lost, mark) {
				t.Fatal(s, more, lost, mark)
			}
		}
		if len(lost) == 0 && len(mustBest(t, more)) > len(mustBest(t, s)) {
			t.Fatal(s, more)
		}
	})
}

// P3.13: without a mark that no row that fits has together with others.
func TestOneMarkLess(t *testing.T) {
	found := 0
	look := func(_ dice, s api.CombSheet) {
		if len(s.Marks) < 2 || len(mustLost(t, s)) > 0 {
			return
		}
		for mark := range s.Marks {
			shared := func(r api.CombRow) bool {
				had, _ := hadBy(s, r)
				return slices.Contains(had, mark) && len(had) > 1
			}
			if slices.ContainsFunc(allRows(s), shared) {
				continue
			}
			less := copied(s)
			less.Marks = slices.Delete(less.Marks, mark, mark+1)
			found++
			if len(mustBest(t, less)) != len(mustBest(t, s))-1 {
				t.Fatal(s, mark)
			}
		}
	}
	sheets(t, func(d dice, s api.CombSheet) {
		look(d, s)
		s.Combs = append(s.Combs, api.CombKind{Space: 1, Teeth: 2})
		s.Marks = append(s.Marks, span(200, 201))
		look(d, s)
	})
	if found == 0 {
		t.Error("no sheet has such a mark")
	}
}

// P3.14
func TestCounted(t *testing.T) {
	sheets(t, func(_ dice, s api.CombSheet) {
		all := allBest(s)
		if len(all) == 0 {
			return
		}
		n, sure := mustCount(t, s), true
		for _, r := range allRows(s) {
			with := 0
			for _, rows := range all {
				if slices.Contains(rows, r) {
					with++
				}
			}
			kind := mustKind(t, s, r)
			without := n - int64(with)
			if (kind == api.CombAlways) != (without == 0) || (kind == api.CombNever) != (with == 0) {
				t.Fatal(s, r, kind, with, n)
			}
			sure = sure && kind != api.CombMay
		}
		if sure != (n == 1) {
			t.Fatal(s, n, sure)
		}
	})
}

// likeRows checks that a sheet has the rows of another one, each put elsewhere, and the same kinds and counts.
func likeRows(t *testing.T, s, other api.CombSheet, elsewhere func(api.CombRow) api.CombRow) {
	t.Helper()
	want := map[api.CombRow]bool{}
	for _, r := range allRows(s) {
		want[elsewhere(r)] = true
	}
	n := 0
	for c := range other.Combs {
		places, e := comb.Places(other, c)
		if e != api.OK {
			t.Fatal(other, e)
		}
		for _, p := range places {
			if !want[at(c, p)] {
				t.Fatal(s, other, c, p)
			}
			n++
		}
	}
	if n != len(want) {
		t.Fatal(s, other, n, len(want))
	}
	for _, r := range allRows(s) {
		k, e := comb.Kind(s, r)
		if l, f := comb.Kind(other, elsewhere(r)); k != l || e != f {
			t.Fatal(s, other, r, k, l)
		}
	}
	k, e := comb.Count(s)
	l, f := comb.Count(other)
	one, g := comb.Best(s)
	two, h := comb.Best(other)
	if k != l || e != f || len(one) != len(two) || g != h {
		t.Fatal(s, other, k, l, one, two)
	}
}

// P3.15: all marks are moved.
func TestMoved(t *testing.T) {
	sheets(t, func(d dice, s api.CombSheet) {
		room := api.MaxCombWide - s.Marks[len(s.Marks)-1].Hi
		for _, far := range []int64{-s.Marks[0].Lo, room, d.Int64N(room + 1)} {
			moved := copied(s)
			for i, m := range s.Marks {
				moved.Marks[i] = span(m.Lo+far, m.Hi+far)
			}
			likeRows(t, s, moved, func(r api.CombRow) api.CombRow { return at(r.Comb, r.At+far) })
		}
	})
}

// P3.15: all marks are turned round.
func TestTurned(t *testing.T) {
	sheets(t, func(_ dice, s api.CombSheet) {
		turned := copied(s)
		for i, m := range s.Marks {
			turned.Marks[len(s.Marks)-1-i] = span(api.MaxCombWide-m.Hi, api.MaxCombWide-m.Lo)
		}
		likeRows(t, s, turned, func(r api.CombRow) api.CombRow {
			c := s.Combs[r.Comb]
			return at(r.Comb, api.MaxCombWide-r.At-int64(c.Teeth-1)*c.Space)
		})
	})
}

// P3.9 and P3.16
func TestMet(t *testing.T) {
	for one := int64(1); one <= api.MaxCombSpace; one++ {
		for two := int64(1); two <= api.MaxCombSpace; two++ {
			divides := one
			for one%divides != 0 || two%divides != 0 {
				divides--
			}
			for _, p := range [][2]int64{{0, 0}, {0, 1}, {3, 0}, {one, two}, {60, 17}, {17, 60}, {500, 0}, {1, 500}, {499, 493}, {7 * one % 500, 5 * two % 500}} {
				n, far, e := comb.Meet(one, two, p[0], p[1])
				if meet := (p[0]-p[1])%divides == 0; meet != (e == api.OK) || !meet && (e != api.ErrNone || n != 0 || far != 0) {
					t.Fatal(one, two, p, n, far, e)
				}
				if e != api.OK {
					continue
				}
				if far*divides != one*two {
					t.Fatal(one, two, p, n, far)
				}
				checkMet(t, one, two, p, n, far)
			}
		}
	}
}

// checkMet checks that from the greater one of two numbers on two combs meet just at n and, so far on, again.
func checkMet(t *testing.T, one, two int64, p [2]int64, n, far int64) {
	t.Helper()
	for m := max(p[0], p[1]); m <= n+far; m++ {
		both := (m-p[0])%one == 0 && (m-p[1])%two == 0
		if both != (m == n || m == n+far) {
			t.Fatal(one, two, p, n, far, m)
		}
	}
}

// P3.10: spaces are all for which some number has one tooth in each mark.
func TestSpacesByAll(t *testing.T) {
	some := 0
	for n := range uint64(400) {
		d := newDice(n)
		var marks []api.Range
		space, from := 1+d.Int64N(25), d.Int64N(100)
		for range 2 + d.IntN(5) {
			m := span(from-d.Int64N(2), from+d.Int64N(3))
			if len(marks) > 0 {
				m.Lo = max(m.Lo, marks[len(marks)-1].Hi+1)
			}
			m.Lo = max(m.Lo, 0)
			m.Hi = max(m.Lo, m.Hi)
			marks = append(marks, m)
			from = m.Lo + space
		}
		var want []api.CombSpace
		for space := int64(1); space <= api.MaxCombSpace; space++ {
			var good []int64
			for p := int64(0); p <= api.MaxCombWide; p++ {
				if oneInEach(marks, space, p) {
					good = append(good, p)
				}
			}
			if len(good) > 0 {
				want = append(want, api.CombSpace{Space: space, At: span(good[0], good[len(good)-1])})
			}
		}
		l, e := comb.Spaces(marks)
		if e != api.OK || !slices.Equal(l, want) {
			t.Fatal(marks, l, e, want)
		}
		if len(l) > 0 {
			some++
		}
	}
	if some < 100 {
		t.Error("too few marks have spaces", some)
	}
}

func oneInEach(marks []api.Range, space, from int64) bool {
	for i, m := range marks {
		if n := from + int64(i)*space; n < m.Lo || n > m.Hi {
			return false
		}
	}
	return true
}
