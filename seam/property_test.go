package seam_test

import (
	"slices"
	"testing"

	"oxgall/api"
	"oxgall/seam"
)

// P4.3: how often parts lie over places is what going along them finds.
func TestOverByAll(t *testing.T) {
	look := func(s api.SeamSet) {
		over := worn(s)
		for place, n := range over {
			if m, e := seam.Over(s, int64(place)); m != n || e != api.OK {
				t.Fatal(s, place, m, n, e)
			}
		}
		peak, place := mustPeak(t, s)
		if peak != slices.Max(over) || place != int64(slices.Index(over, peak)) {
			t.Fatal(s, over, peak, place)
		}
	}
	sets(t, func(_ dice, s api.SeamSet) { look(s) })
	tiny(look)
	look(rings(8))
	look(alike(1000, 8, 501, 9999))
}

// P4.4: wastes and rounds are what cutting an order finds.
func TestOrderByAll(t *testing.T) {
	look := func(s api.SeamSet) {
		orders(s, func(order []int) {
			wastes, rounds := cutPlainly(s, order)
			if l, e := seam.Waste(s, order); !slices.Equal(l, wastes) || e != api.OK {
				t.Fatal(s, order, l, wastes, e)
			}
			if n := mustRounds(t, s, order); n != rounds {
				t.Fatal(s, order, n, rounds)
			}
		})
	}
	sets(t, func(_ dice, s api.SeamSet) { look(s) })
	tiny(look)
}

// P4.5 and P4.7: best orders, their number and kinds are those that cutting all orders finds.
func TestBestByAll(t *testing.T) {
	kinds := map[int]int{}
	look := func(s api.SeamSet) {
		all, least := allBest(s)
		best, rounds := mustBest(t, s)
		if rounds != least || !slices.ContainsFunc(all, func(order []int) bool { return slices.Equal(order, best) }) {
			t.Fatal(s, best, rounds, all, least)
		}
		if n, e := seam.Count(s); n != len(all) || e != api.OK {
			t.Fatal(s, n, e, all)
		}
		for one := range s.Parts {
			for two := range s.Parts {
				if one == two {
					continue
				}
				k := mustKind(t, s, one, two)
				if k != kindOf(all, one, two) {
					t.Fatal(s, one, two, k, all)
				}
				kinds[k]++
			}
		}
	}
	sets(t, func(_ dice, s api.SeamSet) { look(s) })
	tiny(look)
	if len(kinds) != 3 {
		t.Error("some kinds do not come", kinds)
	}
}

// P4.5 and P4.7 for sets of six to eight parts, of which few are made.
func TestBestOfMany(t *testing.T) {
	for n := range uint64(24) {
		d := newDice(5000 + n)
		s := d.set()
		for want := 6 + d.IntN(3); len(s.Parts) < want; {
			s = withPart(s, d.Int64N(s.Period), 1+d.Int64N(s.Period))
		}
		all, least := allBest(s)
		if best, rounds := mustBest(t, s); rounds != least || mustRounds(t, s, best) != least {
			t.Fatal(s, best, rounds, least)
		}
		if n, e := seam.Count(s); n != len(all) || e != api.OK {
			t.Fatal(s, n, e, len(all))
		}
		one := d.IntN(len(s.Parts))
		two := (one + 1 + d.IntN(len(s.Parts)-1)) % len(s.Parts)
		if k := mustKind(t, s, one, two); k != kindOf(all, one, two) {
			t.Fatal(s, one, two, k)
		}
	}
}

// P4.6: groups, and lists of parts that stand apart, are those that the definitions give.
func TestGroupsByAll(t *testing.T) {
	several := 0
	look := func(s api.SeamSet) {
		want := groupsOf(s)
		groups := mustGroups(t, s)
		if !slices.EqualFunc(groups, want, slices.Equal[[]int]) {
			t.Fatal(s, groups, want)
		}
		apart, e := seam.Apart(s)
		switch {
		case len(want) == 1 && (e != api.ErrNone || len(apart) > 0):
			t.Fatal(s, apart, e)
		case len(want) > 1 && (e != api.OK || !slices.Equal(apart, want[0])):
			t.Fatal(s, apart, e, want)
		case len(want) > 1:
			several++
		}
		for bits := range 1 << len(s.Parts) {
			if e := seam.CheckApart(s, listed(bits)); (e == api.OK) != standApart(s, bits) || e != api.OK && e != api.ErrSum {
				t.Fatal(s, listed(bits), e)
			}
		}
	}
	sets(t, func(_ dice, s api.SeamSet) { look(s) })
	tiny(look)
	if several == 0 {
		t.Error("no set has several groups")
	}
}

// P4.8
func TestEither(t *testing.T) {
	look := func(s api.SeamSet) {
		peak, _ := mustPeak(t, s)
		_, rounds := mustBest(t, s)
		apart, e := seam.Apart(s)
		switch e {
		case api.ErrNone:
			if rounds != peak {
				t.Fatal(s, rounds, peak)
			}
		case api.OK:
			if rounds != peak+1 || seam.CheckApart(s, apart) != api.OK {
				t.Fatal(s, rounds, peak, apart)
			}
		default:
			t.Fatal(s, e)
		}
	}
	sets(t, func(_ dice, s api.SeamSet) { look(s) })
	tiny(look)
	look(rings(8))
}

// P4.9: a place, and parts that stand apart, are proofs for each order.
func TestProved(t *testing.T) {
	sets(t, func(_ dice, s api.SeamSet) {
		peak, _ := mustPeak(t, s)
		apart := false
		for bits := range 1 << len(s.Parts) {
			apart = apart || seam.CheckApart(s, listed(bits)) == api.OK
		}
		orders(s, func(order []int) {
			rounds := mustRounds(t, s, order)
			for place := range s.Period {
				if n, e := seam.Over(s, place); e != api.OK || rounds < n {
					t.Fatal(s, order, rounds, place, n)
				}
			}
			if apart && rounds <= peak {
				t.Fatal(s, order, rounds, peak)
			}
		})
	})
}

// P4.10
func TestWasted(t *testing.T) {
	sets(t, func(_ dice, s api.SeamSet) {
		orders(s, func(order []int) {
			wastes, e := seam.Waste(s, order)
			sum, rounds := int64(0), mustRounds(t, s, order)
			for i, part := range order {
				sum += wastes[i] + s.Parts[part].Long
				if wastes[i] < 0 || wastes[i] >= s.Period {
					t.Fatal(s, order, wastes)
				}
			}
			if e != api.OK || sum != rounds*s.Period {
				t.Fatal(s, order, wastes, rounds, e)
			}
			for i := range order {
				turned := append(slices.Clone(order[i:]), order[:i]...)
				same := append(slices.Clone(wastes[i:]), wastes[:i]...)
				if l, e := seam.Waste(s, turned); !slices.Equal(l, same) || e != api.OK || mustRounds(t, s, turned) != rounds {
					t.Fatal(s, order, turned, l, e)
				}
			}
		})
	})
}

// P4.11: each part begins so far on.
func TestTurnedOn(t *testing.T) {
	sets(t, func(d dice, s api.SeamSet) {
		other := copied(s)
		far := d.Int64N(2 * s.Period)
		for i, p := range s.Parts {
			other.Parts[i].At = on(s, p.At, far)
		}
		orders(s, func(order []int) {
			if mustRounds(t, s, order) != mustRounds(t, other, order) {
				t.Fatal(s, other, order)
			}
		})
		likeKinds(t, s, other, func(one, two int) (int, int) { return one, two })
	})
}

// P4.11: the sheet is turned round, so what came behind a part comes before it.
func TestTurnedRound(t *testing.T) {
	sets(t, func(_ dice, s api.SeamSet) {
		other := copied(s)
		for i, p := range s.Parts {
			end := on(s, p.At, p.Long)
			other.Parts[i].At = on(s, 0, s.Period-end)
		}
		orders(s, func(order []int) {
			back := slices.Clone(order)
			slices.Reverse(back)
			if mustRounds(t, s, order) != mustRounds(t, other, back) {
				t.Fatal(s, other, order)
			}
		})
		likeKinds(t, s, other, func(one, two int) (int, int) { return two, one })
	})
}

// likeKinds checks that two sets have best orders with as many rounds, as many of them, and the same kinds of parts, which are put elsewhere.
func likeKinds(t *testing.T, s, other api.SeamSet, elsewhere func(one, two int) (int, int)) {
	t.Helper()
	_, n := mustBest(t, s)
	_, m := mustBest(t, other)
	k, e := seam.Count(s)
	l, f := seam.Count(other)
	if n != m || k != l || e != f {
		t.Fatal(s, other, n, m, k, l)
	}
	for one := range s.Parts {
		for two := range s.Parts {
			if one == two {
				continue
			}
			a, b := elsewhere(one, two)
			if mustKind(t, s, one, two) != mustKind(t, other, a, b) {
				t.Fatal(s, other, one, two)
			}
		}
	}
}

// P4.12
func TestMore(t *testing.T) {
	sets(t, func(d dice, s api.SeamSet) {
		_, rounds := mustBest(t, s)
		for part := range s.Parts {
			if len(s.Parts) == 1 {
				break
			}
			if _, less := mustBest(t, without(s, part)); less > rounds {
				t.Fatal(s, part, less, rounds)
			}
		}
		long := 1 + d.Int64N(3*s.Period)
		most := rounds + 1
		for rest := long; rest > 0; rest -= s.Period {
			most++
		}
		if _, more := mustBest(t, withPart(s, d.Int64N(s.Period), long)); more < rounds || more > most {
			t.Fatal(s, long, more, most)
		}
	})
}

// P4.13
func TestLonger(t *testing.T) {
	sets(t, func(d dice, s api.SeamSet) {
		longer := copied(s)
		longer.Parts[d.IntN(len(s.Parts))].Long += s.Period
		orders(s, func(order []int) {
			if mustRounds(t, longer, order) != mustRounds(t, s, order)+1 {
				t.Fatal(s, longer, order)
			}
		})
	})
}

// P4.2 and P4.14
func TestSideBySide(t *testing.T) {
	for n := range uint64(500) {
		d := newDice(n)
		period := 1 + d.Int64N(1000)
		var longs []int64
		var order []int
		for part := range 1 + d.IntN(8) {
			longs = append(longs, 1+d.Int64N(1+d.Int64N(10000)))
			order = append(order, part)
		}
		s, e := seam.Side(period, d.Int64N(period), longs)
		if e != api.OK || seam.CheckSet(s) != api.OK || s.Period != period || len(s.Parts) != len(longs) {
			t.Fatal(n, s, e)
		}
		for i, p := range s.Parts {
			if p.Long != longs[i] {
				t.Fatal(s, longs)
			}
		}
		if e := seam.Continues(s, order); e != api.OK {
			t.Fatal(s, e)
		}
		wastes, e := seam.Waste(s, order)
		last := len(wastes) - 1
		if e != api.OK || slices.ContainsFunc(wastes[:last], func(waste int64) bool { return waste != 0 }) {
			t.Fatal(s, wastes, e)
		}
		if _, rounds := mustBest(t, s); rounds != mustRounds(t, s, order) {
			t.Fatal(s, rounds)
		}
	}
}

// P4.2: the pattern continues over a row just if each part ends where the next one begins.
func TestContinuesByAll(t *testing.T) {
	some := 0
	sets(t, func(d dice, s api.SeamSet) {
		for range 30 {
			var row []int
			want := api.OK
			for range d.IntN(5) {
				row = append(row, d.IntN(len(s.Parts)))
			}
			for i := 1; i < len(row); i++ {
				p := s.Parts[row[i-1]]
				if on(s, p.At, p.Long) != s.Parts[row[i]].At {
					want = api.ErrSeam
				}
			}
			if e := seam.Continues(s, row); e != want {
				t.Fatal(s, row, e, want)
			}
			if want == api.OK && len(row) > 2 {
				some++
			}
		}
	})
	if some == 0 {
		t.Error("the pattern continues over no row")
	}
}
