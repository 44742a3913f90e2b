package expert_test

import (
	"slices"
	"testing"

	"oxgall/api"
	"oxgall/expert"
)

// claimsTrue returns how many claims are true in a truth.
func claimsTrue(truth []int) int {
	sum := 0
	for _, n := range truth {
		sum += n
	}
	return sum
}

// P8.2 and P8.7: what is a truth, the first ones, and how many there are.
func TestTruthsByAll(t *testing.T) {
	look := func(c api.ExpertCase) {
		truths := truthsOf(c)
		numbered(c.Claims, func(numbers []int) {
			isTruth := slices.ContainsFunc(truths, func(truth []int) bool { return slices.Equal(truth, numbers) })
			if e := expert.CheckTruth(c, numbers); (e == api.OK) != isTruth || e != api.OK && e != api.ErrRule {
				t.Fatal(c, numbers, e)
			}
		})
		if count := mustCount(t, c); count != len(truths) {
			t.Fatal(c, count, truths)
		}
		first, e := expert.Truth(c)
		fewest, f := expert.Fewest(c)
		if len(truths) == 0 {
			if e != api.ErrFake || f != api.ErrFake || len(first) > 0 || len(fewest) > 0 {
				t.Fatal(c, first, e, fewest, f)
			}
			return
		}
		least := slices.MinFunc(truths, func(a, b []int) int { return claimsTrue(a) - claimsTrue(b) })
		if e != api.OK || f != api.OK || !slices.Equal(first, truths[0]) || !slices.Equal(fewest, least) {
			t.Fatal(c, first, e, fewest, f, truths)
		}
	}
	cases(t, func(_ dice, c api.ExpertCase) { look(c) })
	tiny(1, 3, look)
	tiny(2, 3, look)
	tiny(3, 2, look)
}

// P8.5, P8.6 and P8.8: kinds, ties and what is told are what truths show.
func TestKindsByAll(t *testing.T) {
	look := func(c api.ExpertCase) {
		truths := truthsOf(c)
		if len(truths) == 0 {
			if _, e := expert.Kind(c, 1); e != api.ErrFake {
				t.Fatal(c, e)
			}
			return
		}
		var sure []int
		var tied [][]int
		for _, saying := range sayingsOf(c) {
			kind := kindOf(saidIn(truths, saying), len(truths))
			if k := mustKind(t, c, saying); k != kind {
				t.Fatal(c, saying, k, kind)
			}
			if kind == api.ExpertSure {
				sure = append(sure, saying)
			}
			var group []int
			for _, other := range sayingsOf(c) {
				if areTied(truths, saying, other) {
					group = append(group, other)
				}
				if tells := mustTell(t, c, saying, other); tells != told(truths, saying, other) {
					t.Fatal(c, saying, other, tells)
				}
			}
			if saying > 0 && len(group) > 1 && group[0] == saying {
				tied = append(tied, group)
			}
		}
		if all := mustSure(t, c); !slices.Equal(all, sure) {
			t.Fatal(c, all, sure)
		}
		if all, e := expert.Tied(c); !sameGroups(all, tied) || e != api.OK {
			t.Fatal(c, all, e, tied)
		}
		claim, left, e := expert.Ask(c)
		if wantClaim, wantLeft := asked(truths); claim != wantClaim || left != wantLeft || e != api.OK {
			t.Fatal(c, claim, left, e, wantClaim, wantLeft)
		}
	}
	cases(t, func(_ dice, c api.ExpertCase) { look(c) })
	tiny(1, 3, look)
	tiny(2, 3, look)
	tiny(3, 2, look)
}

// told returns what a piece of evidence tells of some truths.
func told(truths [][]int, one, two int) int {
	many := 0
	for _, truth := range truths {
		if isSaid(truth, one) || isSaid(truth, two) {
			many++
		}
	}
	switch many {
	case len(truths):
		return api.ExpertNothing
	case 0:
		return api.ExpertWrong
	}
	return api.ExpertMore
}

// asked returns the claim after which the fewest of some truths can be left, and how many.
func asked(truths [][]int) (int, int) {
	asked, left := -1, len(truths)+1
	for claim := range truths[0] {
		if worst := max(saidIn(truths, claim+1), saidIn(truths, -1-claim)); worst < left {
			asked, left = claim, worst
		}
	}
	return asked, left
}

// P8.3, P8.10 and P8.11: chains are as short as can be, and what they lead to follows.
func TestChainsByAll(t *testing.T) {
	look := func(c api.ExpertCase) {
		fars, truths := farsOf(c), truthsOf(c)
		for _, from := range sayingsOf(c) {
			for _, to := range sayingsOf(c) {
				if from == to {
					continue
				}
				far := fars[[2]int{from, to}]
				if far < never {
					if chain := mustChain(t, c, from, to); len(chain) != far {
						t.Fatal(c, from, to, chain, far)
					}
					if back := mustChain(t, c, -to, -from); len(back) != far {
						t.Fatal(c, from, to, back, far)
					}
					if slices.ContainsFunc(truths, func(truth []int) bool { return isSaid(truth, from) && !isSaid(truth, to) }) {
						t.Fatal(c, from, to, truths)
					}
				} else if chain, e := expert.Chain(c, from, to); len(chain) > 0 || e != api.ErrNone {
					t.Fatal(c, from, to, chain, e)
				}
				if len(truths) > 0 && to == -from && (far < never) != (mustKind(t, c, to) == api.ExpertSure) {
					t.Fatal(c, from, far)
				}
			}
		}
	}
	cases(t, func(_ dice, c api.ExpertCase) { look(c) })
	tiny(1, 3, look)
	tiny(2, 2, look)
	tiny(3, 2, look)
}

// P8.3: each step alone, and chains of a few steps that often are one.
func TestCheckChainByAll(t *testing.T) {
	cases(t, func(d dice, c api.ExpertCase) {
		if len(c.Evidence) == 0 {
			return
		}
		var all []api.ExpertStep
		for by := range c.Evidence {
			for from := -c.Claims - 1; from <= c.Claims+1; from++ {
				for to := -c.Claims - 1; to <= c.Claims+1; to++ {
					s := api.ExpertStep{From: from, To: to, By: by}
					if isStep(c, s) {
						all = append(all, s)
					}
					lookAtChain(t, c, []api.ExpertStep{s})
				}
			}
		}
		for range 10 {
			chain := []api.ExpertStep{all[d.IntN(len(all))]}
			for range d.IntN(6) {
				s := all[d.IntN(len(all))]
				for range 5 {
					if s.From != chain[len(chain)-1].To {
						s = all[d.IntN(len(all))]
					}
				}
				chain = append(chain, s)
			}
			lookAtChain(t, c, chain)
		}
	})
}

// lookAtChain compares what CheckChain and CheckClash say with the definitions, for steps each By of which is a piece of evidence.
func lookAtChain(t *testing.T, c api.ExpertCase, chain []api.ExpertStep) {
	t.Helper()
	isChain, isOver := true, false
	for i, s := range chain {
		isChain = isChain && isStep(c, s) && (i == 0 || chain[i-1].To == s.From)
		isOver = isOver || s.To == -chain[0].From
	}
	first, last := chain[0].From, chain[len(chain)-1].To
	wants := []any{first, last, api.OK, api.OK}
	switch {
	case !isChain:
		wants = []any{0, 0, api.ErrRule, api.ErrRule}
	case first != last || !isOver:
		wants[3] = api.ErrSum
	}
	from, to, e := expert.CheckChain(c, chain)
	if says := []any{from, to, e, expert.CheckClash(c, chain)}; !slices.Equal(says, wants) {
		t.Fatal(c, chain, says, wants)
	}
}

// P8.4 and P8.9: there is either a truth, or a contradiction.
func TestEither(t *testing.T) {
	fakes := 0
	look := func(c api.ExpertCase) {
		if len(truthsOf(c)) == 0 {
			mustClash(t, c)
			fakes++
			return
		}
		mustTruth(t, c)
		if chain, e := expert.Clash(c); len(chain) > 0 || e != api.ErrNone {
			t.Fatal(c, chain, e)
		}
		fars := farsOf(c)
		for _, saying := range sayingsOf(c) {
			if fars[[2]int{saying, -saying}]+fars[[2]int{-saying, saying}] < never {
				t.Fatal(c, saying)
			}
		}
	}
	cases(t, func(_ dice, c api.ExpertCase) { look(c) })
	tiny(1, 3, look)
	tiny(2, 3, look)
	if fakes < 50 {
		t.Error(fakes, "cases without a truth")
	}
}

// P8.12: what two or three of three truths say is a truth, and sayings that fit by twos fit all together.
func TestMostOfThree(t *testing.T) {
	cases(t, func(d dice, c api.ExpertCase) {
		truths := truthsOf(c)
		if len(truths) == 0 {
			return
		}
		for range 10 {
			one, two, three := truths[d.IntN(len(truths))], truths[d.IntN(len(truths))], truths[d.IntN(len(truths))]
			var most []int
			for claim := range c.Claims {
				most = append(most, (one[claim]+two[claim]+three[claim])/2)
			}
			if e := expert.CheckTruth(c, most); e != api.OK {
				t.Fatal(c, one, two, three, most, e)
			}
		}
		for range 5 {
			var some []int
			for range 1 + d.IntN(c.Claims) {
				some = append(some, d.saying(c.Claims))
			}
			areFit := true
			for _, a := range some {
				for _, b := range some {
					// both do not hold together just if it is sure that one of them does not
					areFit = areFit && mustTell(t, c, -a, -b) != api.ExpertNothing
				}
			}
			all := c
			for _, saying := range some {
				all = with(all, saying, saying)
			}
			if (mustCount(t, all) > 0) != areFit {
				t.Fatal(c, some, areFit)
			}
		}
	})
}

// P8.13: one more piece of evidence.
func TestMore(t *testing.T) {
	look := func(d dice, c api.ExpertCase) {
		one, two := d.saying(c.Claims), d.saying(c.Claims)
		if d.IntN(3) == 0 {
			two = one
		}
		more := with(c, one, two)
		was, is := mustCount(t, c), mustCount(t, more)
		if is > was {
			t.Fatal(c, one, two, was, is)
		}
		if was == 0 {
			return
		}
		tells := mustTell(t, c, one, two)
		if (tells == api.ExpertNothing) != (is == was) || (tells == api.ExpertWrong) != (is == 0) {
			t.Fatal(c, one, two, was, is, tells)
		}
		if is == 0 {
			return
		}
		for _, saying := range mustSure(t, c) {
			if mustKind(t, more, saying) != api.ExpertSure {
				t.Fatal(c, one, two, saying)
			}
		}
	}
	cases(t, look)
	cases(t, look)
}

// P8.14: a claim is true in some truths, and not in all others.
func TestCounted(t *testing.T) {
	cases(t, func(_ dice, c api.ExpertCase) {
		least := 1 << 12
		for k := 1; k <= c.Claims; k++ {
			yes, no := mustCount(t, with(c, k, k)), mustCount(t, with(c, -k, -k))
			if yes+no != mustCount(t, c) {
				t.Fatal(c, k, yes, no)
			}
			least = min(least, max(yes, no))
		}
		if _, left, e := expert.Ask(c); e == api.OK && left != least {
			t.Fatal(c, left, least)
		}
	})
}

// turned returns a saying, or a list of numbers, with a claim turned round.
func turned(saying, claim int) int {
	if saying == claim+1 || saying == -1-claim {
		return -saying
	}
	return saying
}

// P8.15: a claim that is turned round.
func TestTurned(t *testing.T) {
	cases(t, func(d dice, c api.ExpertCase) {
		claim := d.IntN(c.Claims)
		round := about(c.Claims)
		for _, e := range c.Evidence {
			round = with(round, turned(e.One, claim), turned(e.Two, claim))
		}
		if mustCount(t, c) != mustCount(t, round) {
			t.Fatal(c, round)
		}
		for _, truth := range truthsOf(c) {
			truth[claim] = 1 - truth[claim]
			if e := expert.CheckTruth(round, truth); e != api.OK {
				t.Fatal(c, claim, truth, e)
			}
		}
		for _, saying := range sayingsOf(c) {
			kind, e := expert.Kind(c, saying)
			if k, f := expert.Kind(round, turned(saying, claim)); k != kind || f != e {
				t.Fatal(c, claim, saying, kind, e, k, f)
			}
		}
	})
}

// Cases of the greatest size.
func TestGreatest(t *testing.T) {
	fakes := 0
	for n := range uint64(60) {
		d := newDice(7000 + n)
		c := d.evidence(12, []int{6, 12, 15, 20, 40}[n%5])
		truths, fars := truthsOf(c), farsOf(c)
		if count := mustCount(t, c); count != len(truths) {
			t.Fatal(c, count, len(truths))
		}
		for _, from := range sayingsOf(c) {
			to := d.saying(12)
			far := fars[[2]int{from, to}]
			if from != to && far < never && len(mustChain(t, c, from, to)) != far {
				t.Fatal(c, from, to, far)
			}
		}
		if len(truths) == 0 {
			mustClash(t, c)
			fakes++
			continue
		}
		if truth := mustTruth(t, c); !slices.Equal(truth, truths[0]) {
			t.Fatal(c, truth)
		}
		for _, saying := range sayingsOf(c) {
			if kind := mustKind(t, c, saying); kind != kindOf(saidIn(truths, saying), len(truths)) {
				t.Fatal(c, saying, kind)
			}
			other := d.saying(12)
			if tells := mustTell(t, c, saying, other); tells != told(truths, saying, other) {
				t.Fatal(c, saying, other, tells)
			}
		}
		claim, left, e := expert.Ask(c)
		if wantClaim, wantLeft := asked(truths); claim != wantClaim || left != wantLeft || e != api.OK {
			t.Fatal(c, claim, left, e)
		}
	}
	if fakes < 10 || fakes > 50 {
		t.Error(fakes)
	}
}
