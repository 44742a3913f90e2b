package seam_test

import (
	"math/rand/v2"
	"slices"
	"testing"

	"oxgall/api"
	"oxgall/lists"
	"oxgall/seam"
)

// set returns a set: of each part its At and its Long.
func set(period int64, numbers ...int64) api.SeamSet {
	s := api.SeamSet{Period: period}
	for i := 0; i < len(numbers); i += 2 {
		s.Parts = append(s.Parts, api.SeamPart{At: numbers[i], Long: numbers[i+1]})
	}
	return s
}

// alike returns a set of n parts that are all the same.
func alike(period int64, n int, at, long int64) api.SeamSet {
	return set(period, slices.Repeat([]int64{at, long}, n)...)
}

// chapterT and chapterU are the sets T and U of the chapter's examples.
func chapterT() api.SeamSet { return set(10, 0, 4, 4, 4, 6, 4, 2, 1) }

func chapterU() api.SeamSet { return set(10, 0, 10, 3, 10) }

// rings is a set of whose n parts each is a group of its own.
func rings(n int) api.SeamSet {
	s := api.SeamSet{Period: 1000}
	for i := range int64(n) {
		s.Parts = append(s.Parts, api.SeamPart{At: 7 * i, Long: 1000 * (i + 1)})
	}
	return s
}

func parts(l ...int) []int { return l }

func copied(s api.SeamSet) api.SeamSet {
	s.Parts = slices.Clone(s.Parts)
	return s
}

// withPart returns a set with one more part, without returns it without a part.
func withPart(s api.SeamSet, at, long int64) api.SeamSet {
	s = copied(s)
	s.Parts = append(s.Parts, api.SeamPart{At: at, Long: long})
	return s
}

func without(s api.SeamSet, part int) api.SeamSet {
	s = copied(s)
	s.Parts = slices.Delete(s.Parts, part, part+1)
	return s
}

// on returns the place that is so far on from another one, millimetre by millimetre.
func on(s api.SeamSet, place, far int64) int64 {
	for range far {
		if place++; place == s.Period {
			place = 0
		}
	}
	return place
}

// worn returns how often parts lie over each place, millimetre by millimetre.
func worn(s api.SeamSet) []int64 {
	over := make([]int64, s.Period)
	for _, p := range s.Parts {
		place := p.At
		for range p.Long {
			over[place]++
			place = on(s, place, 1)
		}
	}
	return over
}

// cutPlainly cuts parts one behind another until the first one comes again,
// millimetre by millimetre: what is wasted behind each, and how often the sheet
// came to the place where it began.
func cutPlainly(s api.SeamSet, order []int) (wastes []int64, rounds int64) {
	begin := s.Parts[order[0]].At
	place, far := begin, int64(0)
	step := func() {
		place = on(s, place, 1)
		far++
		if place == begin {
			rounds++
		}
	}
	for i, part := range order {
		for range s.Parts[part].Long {
			step()
		}
		before := far
		for place != s.Parts[order[(i+1)%len(order)]].At {
			step()
		}
		wastes = append(wastes, far-before)
	}
	return wastes, rounds
}

// stretches returns for each point the least one of its stretch.
func stretches(s api.SeamSet) []int64 {
	over := worn(s)
	peak := slices.Max(over)
	least := make([]int64, s.Period)
	for point := range least {
		least[point] = int64(point)
	}
	for changed := true; changed; {
		changed = false
		for point := range s.Period {
			next := on(s, point, 1)
			if over[point] != peak && least[point] != least[next] {
				both := min(least[point], least[next])
				least[point], least[next], changed = both, both, true
			}
		}
	}
	return least
}

// touching tells for each two parts whether they touch the same stretch.
func touching(s api.SeamSet) [][]bool {
	least := stretches(s)
	ends := func(part int) []int64 {
		p := s.Parts[part]
		return []int64{least[p.At], least[on(s, p.At, p.Long)]}
	}
	out := make([][]bool, len(s.Parts))
	for one := range s.Parts {
		for two := range s.Parts {
			shared := slices.ContainsFunc(ends(one), func(n int64) bool { return slices.Contains(ends(two), n) })
			out[one] = append(out[one], shared)
		}
	}
	return out
}

// groupsOf returns all groups: parts that touch the same stretch get the same least part.
func groupsOf(s api.SeamSet) [][]int {
	touch := touching(s)
	least := make([]int, len(s.Parts))
	for part := range least {
		least[part] = part
	}
	for range s.Parts {
		for one := range s.Parts {
			for two := range s.Parts {
				if touch[one][two] {
					least[one] = min(least[one], least[two])
				}
			}
		}
	}
	var out [][]int
	for part := range s.Parts {
		var group []int
		for other, l := range least {
			if l == part {
				group = append(group, other)
			}
		}
		if group != nil {
			out = append(out, group)
		}
	}
	return out
}

// standApart tells whether the parts of a set of bits stand apart.
func standApart(s api.SeamSet, bits int) bool {
	if bits == 0 || bits == 1<<len(s.Parts)-1 {
		return false
	}
	for one, row := range touching(s) {
		for two, touch := range row {
			if touch && bits>>one&1 == 1 && bits>>two&1 == 0 {
				return false
			}
		}
	}
	return true
}

// listed returns the parts of a set of bits.
func listed(bits int) []int {
	var out []int
	for part := range 8 {
		if bits>>part&1 == 1 {
			out = append(out, part)
		}
	}
	return out
}

// orders calls a function with all orders that begin with the part 0.
func orders(s api.SeamSet, look func(order []int)) {
	for order := range lists.Orders(len(s.Parts), func(begin []int) bool { return begin[0] == 0 }) {
		look(order)
	}
}

// allBest returns all best orders that begin with the part 0, and their rounds.
func allBest(s api.SeamSet) ([][]int, int64) {
	var best [][]int
	least := int64(0)
	orders(s, func(order []int) {
		_, rounds := cutPlainly(s, order)
		if best == nil || rounds < least {
			best, least = nil, rounds
		}
		if rounds == least {
			best = append(best, order)
		}
	})
	return best, least
}

// kindOf returns the kind of two parts by all best orders.
func kindOf(best [][]int, one, two int) int {
	n := 0
	for _, order := range best {
		twice := append(slices.Clone(order), order[0])
		if twice[slices.Index(twice, one)+1] == two {
			n++
		}
	}
	switch n {
	case 0:
		return api.SeamNever
	case len(best):
		return api.SeamAlways
	}
	return api.SeamMay
}

// dice makes sets, the same in each run.
type dice struct{ *rand.Rand }

func newDice(n uint64) dice { return dice{rand.New(rand.NewPCG(n, 4))} }

// set returns a small valid set. Its parts begin and end at few points, so that
// some continue others; at times each of them is as long as the period.
func (d dice) set() api.SeamSet {
	s := api.SeamSet{Period: 1 + d.Int64N(14)}
	far, whole := 1+d.Int64N(3), d.IntN(5) == 0
	for range 1 + d.IntN(5) {
		p := api.SeamPart{At: d.Int64N(s.Period) / far * far, Long: 1 + d.Int64N(2*s.Period)}
		if d.IntN(3) > 0 {
			p.Long = (p.Long + far - 1) / far * far
		}
		if whole && d.IntN(4) > 0 {
			p.Long = s.Period * (1 + d.Int64N(2))
		}
		s.Parts = append(s.Parts, p)
	}
	return s
}

// sets calls a function with many small valid sets, and some that are not made by dice.
func sets(t *testing.T, look func(d dice, s api.SeamSet)) {
	t.Helper()
	for i, s := range []api.SeamSet{
		chapterT(), chapterU(), alike(5, 4, 3, 2), alike(1, 5, 0, 3), set(7, 3, 7), set(4, 0, 1),
		set(6, 5, 1, 0, 6, 0, 5), set(9, 2, 1, 5, 1), set(12, 0, 6, 6, 6, 3, 6, 9, 6), set(100, 90, 30, 20, 70, 5, 1, 95, 1),
	} {
		look(newDice(uint64(1000+i)), s)
	}
	for n := range uint64(600) {
		d := newDice(n)
		s := d.set()
		if e := seam.CheckSet(s); e != api.OK {
			t.Fatal("not a valid set", s, e)
		}
		look(d, s)
	}
}

// tiny calls a function with all sets whose period and parts are at most three, and whose Longs are hardly longer.
func tiny(look func(s api.SeamSet)) {
	var grow func(s api.SeamSet)
	grow = func(s api.SeamSet) {
		if len(s.Parts) > 0 {
			look(s)
		}
		if len(s.Parts) == 3 {
			return
		}
		for at := range s.Period {
			for long := int64(1); long <= s.Period+1; long++ {
				grow(withPart(s, at, long))
			}
		}
	}
	for period := int64(1); period <= 3; period++ {
		grow(api.SeamSet{Period: period})
	}
}

func mustBest(t *testing.T, s api.SeamSet) ([]int, int64) {
	t.Helper()
	order, rounds, e := seam.Best(s)
	if e != api.OK {
		t.Fatal(s, e)
	}
	return order, rounds
}

func mustPeak(t *testing.T, s api.SeamSet) (int64, int64) {
	t.Helper()
	peak, place, e := seam.Peak(s)
	if e != api.OK {
		t.Fatal(s, e)
	}
	return peak, place
}

func mustRounds(t *testing.T, s api.SeamSet, order []int) int64 {
	t.Helper()
	rounds, e := seam.CheckOrder(s, order)
	if e != api.OK {
		t.Fatal(s, order, e)
	}
	return rounds
}

func mustKind(t *testing.T, s api.SeamSet, one, two int) int {
	t.Helper()
	k, e := seam.Kind(s, one, two)
	if e != api.OK {
		t.Fatal(s, one, two, e)
	}
	return k
}

func mustGroups(t *testing.T, s api.SeamSet) [][]int {
	t.Helper()
	groups, e := seam.Groups(s)
	if e != api.OK {
		t.Fatal(s, e)
	}
	return groups
}
