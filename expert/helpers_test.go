package expert_test

import (
	"math/rand/v2"
	"slices"
	"testing"

	"oxgall/api"
	"oxgall/expert"
)

// about returns a case: how many claims there are, and of each piece of evidence its two sayings.
func about(claims int, sayings ...int) api.ExpertCase {
	c := api.ExpertCase{Claims: claims}
	for i := 0; i < len(sayings); i += 2 {
		c.Evidence = append(c.Evidence, api.ExpertEvidence{One: sayings[i], Two: sayings[i+1]})
	}
	return c
}

// chapterE, chapterF and chapterG are the cases of the chapter's examples.
func chapterE() api.ExpertCase { return about(3, 1, 2, -1, 3, -2, -3) }

func chapterF() api.ExpertCase { return with(chapterE(), 1, 1) }

func chapterG() api.ExpertCase { return with(chapterF(), 2, -3) }

// with returns a case with one more piece of evidence.
func with(c api.ExpertCase, one, two int) api.ExpertCase {
	c.Evidence = append(slices.Clone(c.Evidence), api.ExpertEvidence{One: one, Two: two})
	return c
}

// ring returns a case in which each claim leads to the next one, and the last one to the first.
func ring(claims int) api.ExpertCase {
	c := about(claims)
	for claim := range claims {
		c = with(c, -1-claim, (claim+1)%claims+1)
	}
	return c
}

// ladder returns a case in which each claim leads to the next one.
func ladder(claims int) api.ExpertCase {
	c := ring(claims)
	c.Evidence = c.Evidence[:claims-1]
	return c
}

// times returns a case with one piece of evidence n times.
func times(n, claims, one, two int) api.ExpertCase {
	return api.ExpertCase{Claims: claims, Evidence: slices.Repeat([]api.ExpertEvidence{{One: one, Two: two}}, n)}
}

// steps returns steps: of each its From, its To and its By.
func steps(numbers ...int) []api.ExpertStep {
	var l []api.ExpertStep
	for i := 0; i < len(numbers); i += 3 {
		l = append(l, api.ExpertStep{From: numbers[i], To: numbers[i+1], By: numbers[i+2]})
	}
	return l
}

// clashG is the contradiction of G of the chapter's examples.
func clashG() []api.ExpertStep {
	return steps(1, 3, 1, 3, 2, 4, 2, -3, 2, -3, -1, 1, -1, 1, 3)
}

func of(l ...int) []int { return l }

func groups(l ...[]int) [][]int { return l }

func sameGroups(a, b [][]int) bool { return slices.EqualFunc(a, b, slices.Equal[[]int]) }

// sayingsOf returns all sayings of a case, in their order.
func sayingsOf(c api.ExpertCase) []int {
	var all []int
	for k := 1; k <= c.Claims; k++ {
		all = append(all, k, -k)
	}
	return all
}

// numbered calls a function with all lists of 0 or 1 for each claim, in lexicographic order.
func numbered(claims int, look func(numbers []int)) {
	for bits := range 1 << claims {
		numbers := make([]int, claims)
		for claim := range numbers {
			numbers[claim] = bits >> (claims - 1 - claim) & 1
		}
		look(numbers)
	}
}

// isSaid tells whether a saying holds with numbers.
func isSaid(numbers []int, saying int) bool {
	for claim, n := range numbers {
		if saying == claim+1 && n == 1 || saying == -1-claim && n == 0 {
			return true
		}
	}
	return false
}

// truthsOf returns all truths.
func truthsOf(c api.ExpertCase) [][]int {
	var truths [][]int
	numbered(c.Claims, func(numbers []int) {
		for _, e := range c.Evidence {
			if !isSaid(numbers, e.One) && !isSaid(numbers, e.Two) {
				return
			}
		}
		truths = append(truths, numbers)
	})
	return truths
}

// saidIn returns in how many truths a saying holds.
func saidIn(truths [][]int, saying int) int {
	many := 0
	for _, truth := range truths {
		if isSaid(truth, saying) {
			many++
		}
	}
	return many
}

// kindOf returns the kind of what holds in so many of some truths.
func kindOf(many, truths int) int {
	switch many {
	case truths:
		return api.ExpertSure
	case 0:
		return api.ExpertNever
	}
	return api.ExpertMay
}

// areTied tells whether two sayings hold in the same truths.
func areTied(truths [][]int, one, two int) bool {
	return !slices.ContainsFunc(truths, func(truth []int) bool { return isSaid(truth, one) != isSaid(truth, two) })
}

// isStep tells whether a step is one, with a By that is a piece of evidence.
func isStep(c api.ExpertCase, s api.ExpertStep) bool {
	e := c.Evidence[s.By]
	return slices.Contains(sayingsOf(c), s.From) &&
		(e.One == -s.From && e.Two == s.To || e.Two == -s.From && e.One == s.To)
}

const never = 1000 // steps of a chain that there is not

// farsOf returns for each two sayings how many steps a shortest chain has.
func farsOf(c api.ExpertCase) map[[2]int]int {
	fars := map[[2]int]int{}
	all := sayingsOf(c)
	for _, from := range all {
		for _, to := range all {
			fars[[2]int{from, to}] = never
			for by := range c.Evidence {
				if isStep(c, api.ExpertStep{From: from, To: to, By: by}) {
					fars[[2]int{from, to}] = 1
				}
			}
		}
	}
	for _, over := range all {
		for _, from := range all {
			for _, to := range all {
				far := fars[[2]int{from, over}] + fars[[2]int{over, to}]
				fars[[2]int{from, to}] = min(fars[[2]int{from, to}], far)
			}
		}
	}
	return fars
}

// dice makes cases, the same in each run.
type dice struct{ *rand.Rand }

func newDice(n uint64) dice { return dice{rand.New(rand.NewPCG(n, 8))} }

func (d dice) saying(claims int) int {
	if d.IntN(2) == 0 {
		return 1 + d.IntN(claims)
	}
	return -1 - d.IntN(claims)
}

// evidence returns a case with so many pieces of evidence, of which one says the same twice seldom.
func (d dice) evidence(claims, pieces int) api.ExpertCase {
	c := about(claims)
	for range pieces {
		one, two := d.saying(claims), d.saying(claims)
		if one == two && d.IntN(3) > 0 {
			two = d.saying(claims)
		}
		c = with(c, one, two)
	}
	return c
}

// small returns a case of a few claims.
func (d dice) small() api.ExpertCase {
	claims := 1 + d.IntN(5)
	return d.evidence(claims, d.IntN(2*claims+2))
}

// cases calls a function with many small cases, and some that are not made by dice.
func cases(t *testing.T, look func(d dice, c api.ExpertCase)) {
	t.Helper()
	for i, c := range []api.ExpertCase{
		chapterE(), chapterF(), chapterG(), about(1), about(1, 1, -1), about(1, 1, 1, -1, -1), about(2, 1, 1, 2, 2),
		ring(5), ladder(5), with(ring(4), 1, 1), with(ring(4), -1, 3), with(ring(4), 2, 2), with(with(ladder(4), -4, -4), 1, 1),
	} {
		look(newDice(uint64(1000+i)), c)
	}
	for n := range uint64(500) {
		d := newDice(n)
		c := d.small()
		if e := expert.CheckCase(c); e != api.OK {
			t.Fatal("not a valid case", c, e)
		}
		look(d, c)
	}
}

// tiny calls a function with all cases of so many claims with at most so many pieces of evidence.
func tiny(claims, pieces int, look func(c api.ExpertCase)) {
	var grow func(c api.ExpertCase)
	grow = func(c api.ExpertCase) {
		look(c)
		if len(c.Evidence) == pieces {
			return
		}
		for _, one := range sayingsOf(c) {
			for _, two := range sayingsOf(c) {
				grow(with(c, one, two))
			}
		}
	}
	grow(about(claims))
}

func mustTruth(t *testing.T, c api.ExpertCase) []int {
	t.Helper()
	truth, e := expert.Truth(c)
	if e != api.OK || expert.CheckTruth(c, truth) != api.OK {
		t.Fatal(c, truth, e)
	}
	return truth
}

func mustCount(t *testing.T, c api.ExpertCase) int {
	t.Helper()
	count, e := expert.Count(c)
	if e != api.OK {
		t.Fatal(c, e)
	}
	return count
}

func mustSure(t *testing.T, c api.ExpertCase) []int {
	t.Helper()
	sure, e := expert.Sure(c)
	if e != api.OK {
		t.Fatal(c, e)
	}
	return sure
}

func mustKind(t *testing.T, c api.ExpertCase, saying int) int {
	t.Helper()
	kind, e := expert.Kind(c, saying)
	if e != api.OK {
		t.Fatal(c, saying, e)
	}
	return kind
}

func mustTell(t *testing.T, c api.ExpertCase, one, two int) int {
	t.Helper()
	tells, e := expert.Tells(c, api.ExpertEvidence{One: one, Two: two})
	if e != api.OK {
		t.Fatal(c, one, two, e)
	}
	return tells
}

// mustChain returns a chain between sayings, if it is one.
func mustChain(t *testing.T, c api.ExpertCase, from, to int) []api.ExpertStep {
	t.Helper()
	chain, e := expert.Chain(c, from, to)
	if e != api.OK {
		t.Fatal(c, from, to, e)
	}
	first, last, e := expert.CheckChain(c, chain)
	if first != from || last != to || e != api.OK {
		t.Fatal(c, from, to, chain, first, last, e)
	}
	return chain
}

// mustClash returns a contradiction, if it is one.
func mustClash(t *testing.T, c api.ExpertCase) []api.ExpertStep {
	t.Helper()
	chain, e := expert.Clash(c)
	if e != api.OK || expert.CheckClash(c, chain) != api.OK {
		t.Fatal(c, chain, e, expert.CheckClash(c, chain))
	}
	return chain
}
