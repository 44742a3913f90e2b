package stroke_test

import (
	"slices"
	"testing"

	"oxgall/api"
	"oxgall/stroke"
)

// P2.2, P2.3 and P2.10 for long lists: the short form is the one that is found
// in lists alone, and no move changes it.
func TestExchanged(t *testing.T) {
	looks(t, func(d dice, b api.StrokeBench, one, two []int) {
		short := mustShort(t, b, one)
		if want := plainShort(b, one); !slices.Equal(short, want) {
			t.Fatal(b, one, short, want)
		}
		moved := d.wander(b, one, 60, api.MaxStrokeLong)
		if s := mustShort(t, b, moved); !slices.Equal(s, short) || !isSame(t, b, one, moved) {
			t.Fatal(b, one, moved, s, short)
		}
		equal := slices.Equal(short, mustShort(t, b, two))
		if isSame(t, b, one, two) != equal || isSame(t, b, two, one) != equal {
			t.Fatal(b, one, two)
		}
		if m := movesOf(b, one); len(one)+2 <= api.MaxStrokeLong {
			next := after(one, m[d.IntN(len(m))])
			if s := mustShort(t, b, next); !slices.Equal(s, short) {
				t.Fatal(b, one, next, s, short)
			}
		}
	})
}

// P2.4 and P2.10: there is a chain just if the lists make the same pattern.
func TestChained(t *testing.T) {
	looks(t, func(d dice, b api.StrokeBench, one, two []int) {
		for _, other := range [][]int{two, one, mustShort(t, b, one), d.wander(b, one, 60, api.MaxStrokeLong)} {
			c, e := stroke.Chain(b, one, other)
			if e != stroke.Same(b, one, other) || e != api.OK && len(c) > 0 {
				t.Fatal(b, one, other, e)
			}
			if e == api.OK {
				followChain(t, b, one, other, c)
			}
		}
	})
}

// P2.4: any moves are a chain to the list to which they lead, and to no other.
func TestAnyChain(t *testing.T) {
	looks(t, func(d dice, b api.StrokeBench, one, _ []int) {
		var c []api.StrokeMove
		list := one
		for range 80 {
			some := movesOf(b, list)
			m := some[d.IntN(len(some))]
			c = append(c, m)
			if list = after(list, m); len(list) > api.MaxStrokeWay {
				if e := stroke.CheckChain(b, one, one, c); e != api.ErrOver {
					t.Fatal(b, one, c, e)
				}
				return
			}
			if len(list) > api.MaxStrokeLong {
				continue
			}
			if e := stroke.CheckChain(b, one, list, c); e != api.OK {
				t.Fatal(b, one, list, c, e)
			}
			// each move makes another list of the one that it comes to
			if e := stroke.CheckChain(b, one, list, c[:len(c)-1]); e != api.ErrDraw {
				t.Fatal(b, one, list, c, e)
			}
		}
	})
}

// P2.4: of all moves with small numbers just those of the list are accepted.
func TestMovesOfList(t *testing.T) {
	looks(t, func(d dice, b api.StrokeBench, one, _ []int) {
		one = one[:min(len(one), 12)]
		right := movesOf(b, one)
		for kind := -1; kind <= 4; kind++ {
			for at := -2; at <= len(one)+2; at++ {
				for s := -b.Lines - 1; s <= b.Lines+1; s++ {
					m := api.StrokeMove{Kind: kind, At: at, Stroke: s}
					e := stroke.CheckChain(b, one, nil, []api.StrokeMove{m})
					if (e != api.ErrRule) != slices.Contains(right, m) {
						t.Fatal(b, one, m, e)
					}
				}
			}
		}
	})
}

// P2.11
func TestShortest(t *testing.T) {
	looks(t, func(d dice, b api.StrokeBench, one, two []int) {
		s := mustShort(t, b, one)
		if again := mustShort(t, b, s); !slices.Equal(again, s) {
			t.Fatal(b, one, s, again)
		}
		if less := len(one) - len(s); less < 0 || less%2 != 0 {
			t.Fatal(b, one, s)
		}
		one, two = one[:len(one)/2], two[:len(two)/2]
		whole := mustShort(t, b, joined(one, two))
		if parts := mustShort(t, b, joined(mustShort(t, b, one), mustShort(t, b, two))); !slices.Equal(whole, parts) {
			t.Fatal(b, one, two, whole, parts)
		}
	})
}

// P2.12
func TestBack(t *testing.T) {
	looks(t, func(d dice, b api.StrokeBench, one, _ []int) {
		if n, m := len(mustShort(t, b, one)), len(mustShort(t, b, turned(one))); n != m {
			t.Fatal(b, one, n, m)
		}
		half := one[:len(one)/2]
		for _, l := range [][]int{joined(half, turned(half)), joined(turned(half), half)} {
			if s := mustShort(t, b, l); len(s) > 0 || !isSame(t, b, l, nil) {
				t.Fatal(b, l, s)
			}
		}
		if w := mustWay(t, b, one, one); len(w) > 0 {
			t.Fatal(b, one, w)
		}
	})
}

// throughTwo tells whether what is left of two lists along each two lines makes the same pattern.
func throughTwo(t *testing.T, b api.StrokeBench, one, two []int) bool {
	t.Helper()
	all := true
	for i := range b.Lines {
		for j := range i + 1 {
			all = isSame(t, b, along(one, i, j), along(two, i, j)) && all
		}
	}
	return all
}

// P2.13
func TestThroughTwoLines(t *testing.T) {
	seen := map[bool]int{}
	looks(t, func(d dice, b api.StrokeBench, one, two []int) {
		if other := d.wander(b, one, 60, api.MaxStrokeLong); !throughTwo(t, b, one, other) {
			t.Fatal(b, one, other)
		}
		if isSame(t, b, one, two) && !throughTwo(t, b, one, two) {
			t.Fatal(b, one, two)
		}
		// without strokes back, the same strokes in another order
		for i, s := range one {
			one[i] = max(s, -s)
		}
		other := slices.Clone(one)
		for range 1 + d.IntN(5) {
			if n := len(other); n > 1 {
				i := d.IntN(n - 1)
				other[i], other[i+1] = other[i+1], other[i]
			}
		}
		same := isSame(t, b, one, other)
		if same != throughTwo(t, b, one, other) {
			t.Fatal(b, one, other)
		}
		seen[same]++
	})
	if seen[true] < 50 || seen[false] < 50 {
		t.Error("too few of a kind were looked at", seen)
	}
}

// fewest returns how many rounds a list has to have if its strokes stay as they
// are: each one comes after those before it with which it can't be exchanged.
func fewest(b api.StrokeBench, l []int) int {
	most := 0
	at := make([]int, len(l))
	for i, s := range l {
		for j, other := range l[:i] {
			if !free(b, s, other) {
				at[i] = max(at[i], at[j])
			}
		}
		at[i]++
		most = max(most, at[i])
	}
	return most
}

// P2.6, P2.7 and P2.14
func TestRoundsAreFewest(t *testing.T) {
	looks(t, func(d dice, b api.StrokeBench, one, _ []int) {
		short := mustShort(t, b, one)
		rounds, e := stroke.Rounds(b, one)
		if e != api.OK || len(rounds) != fewest(b, short) {
			t.Fatal(b, one, rounds, e)
		}
		for i, r := range rounds {
			if len(r) == 0 || !slices.IsSortedFunc(r, order) {
				t.Fatal(b, one, rounds)
			}
			for n, s := range r {
				// it can be in no earlier round, and be exchanged with all others of its own
				early := i > 0 && !slices.ContainsFunc(rounds[i-1], func(u int) bool { return !free(b, s, u) })
				clash := slices.ContainsFunc(r[:n], func(u int) bool { return !free(b, s, u) })
				if early || clash {
					t.Fatal(b, one, rounds, s)
				}
			}
		}
		if whole := slices.Concat(rounds...); len(whole) != len(short) || !isSame(t, b, one, whole) {
			t.Fatal(b, one, rounds)
		}
		spine, e := stroke.Spine(b, one)
		if n, f := stroke.CheckSpine(b, one, spine); e != api.OK || f != api.OK || n != len(rounds) {
			t.Fatal(b, one, spine, e, n, f)
		}
		other := d.wander(b, one, 60, api.MaxStrokeLong)
		if fewest(b, one) < len(spine) || fewest(b, other) < len(spine) {
			t.Fatal(b, one, other, spine)
		}
	})
}

// P2.5 and P2.8: the first strokes are those with which shortest lists begin,
// and orders are counted by them.
func TestFirstsAndCount(t *testing.T) {
	looks(t, func(d dice, b api.StrokeBench, one, _ []int) {
		short := mustShort(t, b, one)
		firsts, e := stroke.Firsts(b, one)
		if e != api.OK || !slices.IsSortedFunc(firsts, order) || len(slices.Compact(slices.Clone(firsts))) != len(firsts) {
			t.Fatal(b, one, firsts, e)
		}
		for k := range b.Lines {
			for _, s := range of(k+1, -1-k) {
				// without s in front fewer strokes are left just if s can be first
				shorter := len(plainShort(b, joined(of(-s), short))) < len(short)
				if shorter != slices.Contains(firsts, s) {
					t.Fatal(b, one, firsts, s)
				}
			}
		}
		n, e := stroke.Count(b, one)
		if len(short) > api.MaxStrokeCount {
			if e != api.ErrLong || n != 0 {
				t.Fatal(b, one, n, e)
			}
			return
		}
		sum := int64(0)
		for _, s := range firsts {
			m, e := stroke.Count(b, joined(of(-s), short))
			if e != api.OK {
				t.Fatal(b, one, s, e)
			}
			sum += m
		}
		if e != api.OK || n != max(sum, 1) {
			t.Fatal(b, one, n, e, sum)
		}
	})
}

// P2.9 and P2.15
func TestFar(t *testing.T) {
	looks(t, func(d dice, b api.StrokeBench, one, two []int) {
		way, again := mustWay(t, b, one, two), mustWay(t, b, two, one)
		if !slices.Equal(way, plainShort(b, joined(turned(one), two))) || !slices.Equal(again, plainShort(b, turned(way))) {
			t.Fatal(b, one, two, way, again)
		}
		if len(way) != len(again) {
			t.Fatal(b, one, two, way, again)
		}
		third := d.list(b, api.MaxStrokeLong, 3)
		if over := len(mustWay(t, b, one, third)) + len(mustWay(t, b, third, two)); over < len(way) {
			t.Fatal(b, one, two, third, over, way)
		}
		if len(one) < api.MaxStrokeLong {
			s := 1 + d.IntN(b.Lines)
			more := len(mustShort(t, b, append(slices.Clone(one), s))) - len(mustShort(t, b, one))
			if more != 1 && more != -1 {
				t.Fatal(b, one, s, more)
			}
		}
	})
}

// P2.9 and P2.15: what is common is a beginning of both, and as long as the way says.
func TestCommon(t *testing.T) {
	some := 0
	looks(t, func(d dice, b api.StrokeBench, one, two []int) {
		// lists that begin in the same way
		half := d.list(b, api.MaxStrokeLong/2, 4)
		one, two = joined(half, one[:len(one)/2]), joined(half, two[:len(two)/2])
		common := mustCommon(t, b, one, two)
		if len(common) > 0 {
			some++
		}
		short, other := mustShort(t, b, one), mustShort(t, b, two)
		if len(short)+len(other) != len(mustWay(t, b, one, two))+2*len(common) {
			t.Fatal(b, one, two, common)
		}
		for _, l := range [][]int{short, other} {
			if rest := mustWay(t, b, common, l); len(common)+len(rest) != len(l) {
				t.Fatal(b, one, two, common, l)
			}
		}
		if again := mustCommon(t, b, two, one); !slices.Equal(again, common) || !slices.Equal(common, mustShort(t, b, common)) {
			t.Fatal(b, one, two, common, again)
		}
		if own := mustCommon(t, b, one, one); !slices.Equal(own, short) {
			t.Fatal(b, one, own, short)
		}
	})
	if some < 100 {
		t.Error("too few had something in common", some)
	}
}

// P2.16
func TestMoreThatCross(t *testing.T) {
	fewer := 0
	looks(t, func(d dice, b api.StrokeBench, one, two []int) {
		more := api.StrokeBench{Lines: b.Lines, Cross: slices.Clone(b.Cross)}
		for _, p := range pairs(b.Lines) {
			if !slices.Contains(b.Cross, p) && d.IntN(3) == 0 {
				more.Cross = append(more.Cross, p)
			}
		}
		if len(mustShort(t, more, one)) < len(mustShort(t, b, one)) {
			t.Fatal(b, more, one)
		}
		for _, other := range [][]int{two, d.wander(b, one, 10, api.MaxStrokeLong), d.wander(more, one, 10, api.MaxStrokeLong)} {
			before, now := isSame(t, b, one, other), isSame(t, more, one, other)
			if now && !before {
				t.Fatal(b, more, one, other)
			}
			if before && !now {
				fewer++
			}
		}
	})
	if fewer < 20 {
		t.Error("too few lists make the same pattern no more", fewer)
	}
}
