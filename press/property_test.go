package press_test

import (
	"slices"
	"testing"

	"oxgall/api"
	"oxgall/press"
)

// P6.2 and P6.3: what an order tells is what doing it minute by minute shows.
func TestOrderByMinutes(t *testing.T) {
	look := func(l []api.PressSheet) {
		orders(len(l), func(order []int) {
			seen := watch(l, order)
			if ends, e := press.Ends(l, order); !slices.Equal(ends, seen.ends) || e != api.OK {
				t.Fatal(l, order, ends, seen, e)
			}
			if end := mustEnd(t, l, order); end != seen.ends[len(order)-1] {
				t.Fatal(l, order, end, seen)
			}
			if lines := mustLines(t, l, order); lines != seen.lines {
				t.Fatal(l, order, lines, seen)
			}
		})
	}
	days(t, func(d dice, l []api.PressSheet) { look(l) })
	tiny(2, 3, look)
	tiny(3, 1, look)
	high := alike(8, 1000, 1000, 1000)
	for n := range uint64(5) {
		order := newDice(n).Perm(8)
		if ends, _ := press.Ends(high, order); !slices.Equal(ends, watch(high, order).ends) {
			t.Error(order, ends)
		}
	}
}

// P6.4, P6.6 and P6.7: best orders, their number, kinds and spares are those that all orders give.
func TestBestByAll(t *testing.T) {
	kinds := map[int]int{}
	look := func(l []api.PressSheet) {
		all, least := allBest(l)
		if best, end := mustBest(t, l); !slices.Equal(best, all[0]) || end != least {
			t.Fatal(l, best, end, all, least)
		}
		if n := mustCount(t, l); n != len(all) {
			t.Fatal(l, n, all)
		}
		for one := range l {
			for two := range l {
				if one == two {
					continue
				}
				kind := mustKind(t, l, one, two)
				if kind != kindOf(all, one, two) {
					t.Fatal(l, one, two, kind, all)
				}
				kinds[kind]++
			}
		}
	}
	days(t, func(_ dice, l []api.PressSheet) { look(l) })
	tiny(2, 3, look)
	tiny(4, 1, look)
	if len(kinds) != 3 {
		t.Error("some kinds do not come", kinds)
	}
}

// P6.7: a spare is what hanging longer minute by minute gives.
func TestSpareByMinutes(t *testing.T) {
	some := 0
	look := func(l []api.PressSheet) {
		for sheet := range l {
			spare := mustSpare(t, l, sheet)
			if spare != spareOf(l, sheet) {
				t.Fatal(l, sheet, spare)
			}
			if spare > 0 {
				some++
			}
		}
	}
	days(t, func(_ dice, l []api.PressSheet) {
		if len(l) < 5 {
			look(l)
		}
	})
	tiny(2, 3, look)
	tiny(3, 1, look)
	if some == 0 {
		t.Error("no sheet has a spare")
	}
}

// P6.4 to P6.7 for days of six to eight sheets with works of up to 1,000 minutes, of which few are made.
func TestManySheets(t *testing.T) {
	for n := range uint64(20) {
		d := newDice(5000 + n)
		most := []int64{2, 9, 40, 1000}[n%4]
		var l []api.PressSheet
		for range 6 + d.IntN(3) {
			l = append(l, d.sheet(most))
		}
		all, least := allBest(l)
		if best, end := mustBest(t, l); !slices.Equal(best, all[0]) || end != least {
			t.Fatal(l, best, end, all[0], least)
		}
		if n := mustCount(t, l); n != len(all) {
			t.Fatal(l, n, len(all))
		}
		one := d.IntN(len(l))
		two := (one + 1 + d.IntN(len(l)-1)) % len(l)
		if kind := mustKind(t, l, one, two); kind != kindOf(all, one, two) {
			t.Fatal(l, one, two, kind)
		}
		spare := int64(0)
		for _, order := range all {
			spare = max(spare, least-rows(l, order)[slices.Index(order, one)])
		}
		if s := mustSpare(t, l, one); s != spare {
			t.Fatal(l, one, s, spare)
		}
		if minute := mustMinute(t, l, mustBound(t, l)); minute != least {
			t.Fatal(l, minute, least)
		}
	}
}

// P6.8
func TestRows(t *testing.T) {
	days(t, func(_ dice, l []api.PressSheet) {
		orders(len(l), func(order []int) {
			rows := rows(l, order)
			longest := slices.Max(rows)
			ends, e := press.Ends(l, order)
			if e != api.OK || mustEnd(t, l, order) != longest {
				t.Fatal(l, order, rows, ends, e)
			}
			sheet, e := press.Critical(l, order)
			if e != api.OK || sheet != order[slices.Index(rows, longest)] {
				t.Fatal(l, order, rows, sheet, e)
			}
			for i, row := range rows {
				for _, other := range order[i+1:] {
					row -= l[other].Press
				}
				if i > 0 && ends[i] < ends[i-1] || ends[i] < row {
					t.Fatal(l, order, ends, i, row)
				}
			}
		})
	})
}

// P6.5 and P6.9: no order ends sooner than the minute of any bound, and a best one ends just at that of Bound.
func TestProved(t *testing.T) {
	look := func(l []api.PressSheet) {
		best, end := mustBest(t, l)
		bounds(l, func(b api.PressBound) {
			if minute := mustMinute(t, l, b); minute != minuteOf(l, b) || minute > end {
				t.Fatal(l, b, minute, end)
			}
		})
		b := mustBound(t, l)
		if minute := mustMinute(t, l, b); minute != end || mustEnd(t, l, best) != end {
			t.Fatal(l, best, b, minute, end)
		}
		orders(len(l), func(order []int) {
			if mustEnd(t, l, order) < end {
				t.Fatal(l, order, b)
			}
		})
	}
	days(t, func(_ dice, l []api.PressSheet) { look(l) })
	tiny(2, 3, look)
	tiny(3, 1, look)
}

// P6.9 for all days of three sheets with works of up to two minutes.
func TestBoundOfThree(t *testing.T) {
	tiny(3, 2, func(l []api.PressSheet) {
		_, end := allBest(l)
		if minute := mustMinute(t, l, mustBound(t, l)); minute != end {
			t.Fatal(l, minute, end)
		}
	})
}

// P6.10
func TestTurnedRound(t *testing.T) {
	days(t, func(_ dice, l []api.PressSheet) {
		other := turned(l)
		orders(len(l), func(order []int) {
			back := slices.Clone(order)
			slices.Reverse(back)
			if mustEnd(t, l, order) != mustEnd(t, other, back) {
				t.Fatal(l, order)
			}
		})
		_, one := mustBest(t, l)
		if _, two := mustBest(t, other); one != two || mustCount(t, l) != mustCount(t, other) {
			t.Fatal(l, one, two)
		}
		for one := range l {
			for two := range l {
				if one != two && mustKind(t, l, one, two) != mustKind(t, other, two, one) {
					t.Fatal(l, one, two)
				}
			}
			if mustSpare(t, l, one) != mustSpare(t, other, one) {
				t.Fatal(l, one)
			}
		}
	})
}

// P6.11: works that take more time.
func TestMoreTime(t *testing.T) {
	days(t, func(d dice, l []api.PressSheet) {
		other := slices.Clone(l)
		for i := range other {
			other[i].Draw += d.Int64N(3)
			other[i].Dry += d.Int64N(3)
			other[i].Press += d.Int64N(3)
		}
		orders(len(l), func(order []int) {
			if mustEnd(t, l, order) > mustEnd(t, other, order) {
				t.Fatal(l, other, order)
			}
		})
		_, one := mustBest(t, l)
		if _, two := mustBest(t, other); one > two {
			t.Fatal(l, other, one, two)
		}
	})
}

// P6.11: a sheet more.
func TestMoreSheets(t *testing.T) {
	days(t, func(d dice, l []api.PressSheet) {
		_, end := mustBest(t, l)
		s := d.sheet(30)
		if d.IntN(2) == 0 {
			s = l[d.IntN(len(l))]
		}
		_, later := mustBest(t, append(slices.Clone(l), s))
		if later < end+min(s.Draw, s.Press) || later > end+s.Draw+s.Dry+s.Press {
			t.Fatal(l, s, end, later)
		}
	})
}

// P6.12
func TestManyTimes(t *testing.T) {
	days(t, func(d dice, l []api.PressSheet) {
		times := 2 + d.Int64N(24)
		other := slices.Clone(l)
		for i, s := range l {
			other[i] = api.PressSheet{Draw: times * s.Draw, Dry: times * s.Dry, Press: times * s.Press}
		}
		if e := press.CheckDay(other); e != api.OK {
			t.Fatal(other, e)
		}
		orders(len(l), func(order []int) {
			if mustEnd(t, other, order) != times*mustEnd(t, l, order) {
				t.Fatal(l, times, order)
			}
		})
		if mustCount(t, l) != mustCount(t, other) {
			t.Fatal(l, times)
		}
		for one := range l {
			for two := range l {
				if one != two && mustKind(t, l, one, two) != mustKind(t, other, one, two) {
					t.Fatal(l, times, one, two)
				}
			}
		}
	})
}

// P6.13
func TestSpared(t *testing.T) {
	look := func(l []api.PressSheet) {
		_, end := mustBest(t, l)
		for sheet := range l {
			spare := mustSpare(t, l, sheet)
			if _, same := mustBest(t, longer(l, sheet, spare)); same != end {
				t.Fatal(l, sheet, spare, same, end)
			}
			if _, later := mustBest(t, longer(l, sheet, spare+1)); later <= end {
				t.Fatal(l, sheet, spare, later, end)
			}
		}
	}
	days(t, func(_ dice, l []api.PressSheet) { look(l) })
	tiny(2, 3, look)
	tiny(3, 1, look)
}

// P6.14
func TestLines(t *testing.T) {
	counts := map[int]int{}
	look := func(l []api.PressSheet) {
		orders(len(l), func(order []int) {
			lines := mustLines(t, l, order)
			if lines > len(l) || (lines > 0) != watch(l, order).hangs {
				t.Fatal(l, order, lines)
			}
			counts[lines]++
		})
	}
	days(t, func(_ dice, l []api.PressSheet) { look(l) })
	tiny(2, 3, look)
	tiny(3, 1, look)
	if len(counts) < 6 {
		t.Error("some numbers of lines do not come", counts)
	}
}
