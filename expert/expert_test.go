package expert_test

import (
	"math"
	"slices"
	"testing"

	"oxgall/api"
	"oxgall/expert"
)

// P8.1
func TestCheckCase(t *testing.T) {
	for i, x := range []struct {
		c api.ExpertCase
		e api.Errno
	}{
		{chapterE(), api.OK},
		{chapterG(), api.OK},
		{about(1), api.OK},
		{about(12), api.OK},
		{about(1, 1, -1, 1, 1, -1, -1), api.OK},
		{about(12, 12, -12, 1, 12), api.OK},
		{times(40, 12, -12, 12), api.OK},
		{about(0), api.ErrArg},
		{about(13), api.ErrArg},
		{about(-1), api.ErrArg},
		{about(math.MinInt), api.ErrArg},
		{about(math.MaxInt), api.ErrArg},
		{times(41, 12, 1, 1), api.ErrMany},
		{times(5000, 1, 1, 1), api.ErrMany},
		{about(3, 0, 1), api.ErrRange},
		{about(3, 1, 0), api.ErrRange},
		{about(3, 4, 1), api.ErrRange},
		{about(3, 1, 4), api.ErrRange},
		{about(3, -4, 1), api.ErrRange},
		{about(3, 1, -4), api.ErrRange},
		{about(12, 13, 1), api.ErrRange},
		{about(1, 1, 1, 1, 2), api.ErrRange},
		{about(1, -2, 1, 1, 1), api.ErrRange},
		{about(12, math.MinInt, 1), api.ErrRange},
		{about(12, 1, math.MaxInt), api.ErrRange},
		// of several errors the one that is named first
		{times(41, 0, 0, 0), api.ErrArg},
		{about(13, 0, 0), api.ErrArg},
		{times(41, 1, 0, 2), api.ErrMany},
	} {
		if e := expert.CheckCase(x.c); e != x.e {
			t.Error(i, e, x.e)
		}
	}
}

// The error of CheckCase comes before all others, and with it zero values.
func TestInvalidCase(t *testing.T) {
	for _, x := range []struct {
		c api.ExpertCase
		e api.Errno
	}{
		{about(0), api.ErrArg},
		{about(13, 1, 1, -1, -1), api.ErrArg},
		{times(41, 1, 1, 1), api.ErrMany},
		{about(1, 1, 1, -1, -1, 0, 1), api.ErrRange},
		{about(2, 3, 1), api.ErrRange},
	} {
		if truth, e := expert.Truth(x.c); e != x.e || len(truth) > 0 {
			t.Error("Truth", truth, e, x.e)
		}
		if chain, e := expert.Clash(x.c); e != x.e || len(chain) > 0 {
			t.Error("Clash", chain, e, x.e)
		}
		if sure, e := expert.Sure(x.c); e != x.e || len(sure) > 0 {
			t.Error("Sure", sure, e, x.e)
		}
		if tied, e := expert.Tied(x.c); e != x.e || len(tied) > 0 {
			t.Error("Tied", tied, e, x.e)
		}
		if count, e := expert.Count(x.c); e != x.e || count != 0 {
			t.Error("Count", count, e, x.e)
		}
		if truth, e := expert.Fewest(x.c); e != x.e || len(truth) > 0 {
			t.Error("Fewest", truth, e, x.e)
		}
		if claim, left, e := expert.Ask(x.c); e != x.e || claim != 0 || left != 0 {
			t.Error("Ask", claim, left, e, x.e)
		}
		for _, n := range of(0, 1, -1, 2, 14, math.MinInt) {
			for _, truth := range [][]int{nil, of(n), of(0, n)} {
				if e := expert.CheckTruth(x.c, truth); e != x.e {
					t.Error("CheckTruth", e, x.e)
				}
			}
			for _, chain := range [][]api.ExpertStep{nil, steps(n, n, n), steps(1, 1, 0), make([]api.ExpertStep, 61)} {
				if from, to, e := expert.CheckChain(x.c, chain); e != x.e || from != 0 || to != 0 {
					t.Error("CheckChain", from, to, e, x.e)
				}
				if e := expert.CheckClash(x.c, chain); e != x.e {
					t.Error("CheckClash", e, x.e)
				}
			}
			if chain, e := expert.Chain(x.c, n, 1); e != x.e || len(chain) > 0 {
				t.Error("Chain", chain, e, x.e)
			}
			if kind, e := expert.Kind(x.c, n); e != x.e || kind != 0 {
				t.Error("Kind", kind, e, x.e)
			}
			if tells, e := expert.Tells(x.c, api.ExpertEvidence{One: n, Two: 1}); e != x.e || tells != 0 {
				t.Error("Tells", tells, e, x.e)
			}
		}
	}
}

// The examples of the chapter.
func TestExamples(t *testing.T) {
	e, f, g := chapterE(), chapterF(), chapterG()
	if one, two := mustTruth(t, e), mustTruth(t, f); !slices.Equal(one, of(0, 1, 0)) || !slices.Equal(two, of(1, 0, 1)) {
		t.Error(one, two)
	}
	if truth, no := expert.Truth(g); len(truth) > 0 || no != api.ErrFake {
		t.Error(truth, no)
	}
	for _, x := range []struct {
		truth []int
		e     api.Errno
	}{{of(1, 0, 1), api.OK}, {of(1, 1, 0), api.ErrRule}, {of(1, 0), api.ErrEqual}} {
		if no := expert.CheckTruth(e, x.truth); no != x.e {
			t.Error(x.truth, no)
		}
	}
	if one, two := mustCount(t, e), mustCount(t, g); one != 2 || two != 0 {
		t.Error(one, two)
	}
	if truth, no := expert.Fewest(e); !slices.Equal(truth, of(0, 1, 0)) || no != api.OK {
		t.Error(truth, no)
	}
	if chain := mustChain(t, e, 1, -2); !slices.Equal(chain, steps(1, 3, 1, 3, -2, 2)) {
		t.Error(chain)
	}
	if chain, no := expert.Chain(e, 1, 2); len(chain) > 0 || no != api.ErrNone {
		t.Error(chain, no)
	}
	if one, two, three := mustKind(t, e, 1), mustKind(t, f, 1), mustKind(t, f, -3); one != 1 || two != 2 || three != 0 {
		t.Error(one, two, three)
	}
	if sure := mustSure(t, f); !slices.Equal(sure, of(1, -2, 3)) {
		t.Error(sure)
	}
	if tied, no := expert.Tied(e); !sameGroups(tied, groups(of(1, -2, 3))) || no != api.OK {
		t.Error(tied, no)
	}
	if one, two := expert.CheckClash(g, clashG()), expert.CheckClash(g, clashG()[:4]); one != api.OK || two != api.ErrSum {
		t.Error(one, two)
	}
	if one, two, three := mustTell(t, e, -1, -2), mustTell(t, e, 1, 3), mustTell(t, e, 2, -1); one != 0 || two != 1 || three != 1 {
		t.Error(one, two, three)
	}
	if claim, left, no := expert.Ask(e); claim != 0 || left != 1 || no != api.OK {
		t.Error(claim, left, no)
	}
}

// P8.2
func TestCheckTruth(t *testing.T) {
	for i, x := range []struct {
		c     api.ExpertCase
		truth []int
		e     api.Errno
	}{
		{chapterE(), of(0, 1, 0), api.OK},
		{chapterE(), of(0, 1, 1), api.ErrRule},
		{chapterE(), of(0, 0, 0), api.ErrRule},
		{chapterG(), of(1, 0, 1), api.ErrRule},
		{about(1), of(0), api.OK},
		{about(1), of(1), api.OK},
		{about(1, -1, -1), of(1), api.ErrRule},
		{about(1, 1, -1), of(1), api.OK},
		{chapterE(), nil, api.ErrEqual},
		{chapterE(), of(0, 1, 0, 0), api.ErrEqual},
		{chapterE(), make([]int, 70000), api.ErrEqual},
		{chapterE(), of(2, 1), api.ErrEqual}, // before ErrRange
		{chapterE(), of(0, 2, 0), api.ErrRange},
		{chapterE(), of(0, 1, -1), api.ErrRange},
		{chapterE(), of(1, 1, 2), api.ErrRange}, // before ErrRule
		{chapterE(), of(math.MinInt, 1, math.MaxInt), api.ErrRange},
		{about(12), make([]int, 12), api.OK},
	} {
		if e := expert.CheckTruth(x.c, x.truth); e != x.e {
			t.Error(i, e, x.e)
		}
	}
}

// P8.2, P8.5, P8.6, P8.7 and P8.8
func TestTruths(t *testing.T) {
	for i, x := range []struct {
		c             api.ExpertCase
		first, fewest []int
		count         int
		sure          []int
		tied          [][]int
		claim, left   int
	}{
		{about(1), of(0), of(0), 2, nil, nil, 0, 1},
		{about(1, 1, 1), of(1), of(1), 1, of(1), nil, 0, 1},
		{about(1, -1, -1), of(0), of(0), 1, of(-1), nil, 0, 1},
		{about(2), of(0, 0), of(0, 0), 4, nil, nil, 0, 2},
		// the first truth is not one with the fewest claims that are true
		{about(3, 1, 2, 1, 3), of(0, 1, 1), of(1, 0, 0), 5, nil, nil, 1, 3},
		// of several with the fewest the first one
		{about(3, 1, 2, 2, 3, 1, 3), of(0, 1, 1), of(0, 1, 1), 4, nil, nil, 0, 3},
		// what is sure is tied, and so is what is excluded
		{about(3, -1, -1, 2, 2), of(0, 1, 0), of(0, 1, 0), 2, of(-1, 2), groups(of(1, -2)), 2, 1},
		{about(3, 2, 2, 3, 3), of(0, 1, 1), of(0, 1, 1), 2, of(2, 3), groups(of(2, 3)), 0, 1},
		// two groups, each of which begins with a claim that is true
		{about(5, -1, -3, 1, 3, -2, 5, 2, -5), of(0, 0, 1, 0, 0), of(0, 0, 1, 0, 0), 8, nil, groups(of(1, -3), of(2, 5)), 0, 4},
		{ring(12), make([]int, 12), make([]int, 12), 2, nil, groups(of(1, 2, 3, 4, 5, 6, 7, 8, 9, 10, 11, 12)), 0, 1},
		{ladder(12), make([]int, 12), make([]int, 12), 13, nil, nil, 5, 7},
		{with(ladder(3), -3, -3), of(0, 0, 0), of(0, 0, 0), 1, of(-1, -2, -3), groups(of(1, 2, 3)), 0, 1},
		{with(ladder(12), 2, 2), of(0, 1, 1, 1, 1, 1, 1, 1, 1, 1, 1, 1), of(0, 1, 1, 1, 1, 1, 1, 1, 1, 1, 1, 1), 2,
			of(2, 3, 4, 5, 6, 7, 8, 9, 10, 11, 12), groups(of(2, 3, 4, 5, 6, 7, 8, 9, 10, 11, 12)), 0, 1},
		{about(12), make([]int, 12), make([]int, 12), 4096, nil, nil, 0, 2048},
		{about(12, 12, 12, 11, -12), append(make([]int, 10), 1, 1), append(make([]int, 10), 1, 1), 1024, of(11, 12), groups(of(11, 12)), 0, 512},
	} {
		if truth := mustTruth(t, x.c); !slices.Equal(truth, x.first) {
			t.Error(i, truth)
		}
		if truth, e := expert.Fewest(x.c); !slices.Equal(truth, x.fewest) || e != api.OK {
			t.Error(i, truth, e)
		}
		if count := mustCount(t, x.c); count != x.count {
			t.Error(i, count)
		}
		if sure := mustSure(t, x.c); !slices.Equal(sure, x.sure) {
			t.Error(i, sure)
		}
		if tied, e := expert.Tied(x.c); !sameGroups(tied, x.tied) || e != api.OK {
			t.Error(i, tied, e)
		}
		if claim, left, e := expert.Ask(x.c); claim != x.claim || left != x.left || e != api.OK {
			t.Error(i, claim, left, e)
		}
	}
}

// P8.2, P8.4, P8.5, P8.6, P8.7 and P8.8: a case without a truth.
func TestFake(t *testing.T) {
	for i, c := range []api.ExpertCase{
		chapterG(), about(1, 1, 1, -1, -1), about(2, 1, 2, 1, -2, -1, 2, -1, -2), about(12, 12, 12, -12, -12), with(with(ring(12), 7, 7), -5, -5),
	} {
		if truth, e := expert.Truth(c); e != api.ErrFake || len(truth) > 0 {
			t.Error(i, "Truth", truth, e)
		}
		if sure, e := expert.Sure(c); e != api.ErrFake || len(sure) > 0 {
			t.Error(i, "Sure", sure, e)
		}
		if tied, e := expert.Tied(c); e != api.ErrFake || len(tied) > 0 {
			t.Error(i, "Tied", tied, e)
		}
		if count := mustCount(t, c); count != 0 {
			t.Error(i, "Count", count)
		}
		if truth, e := expert.Fewest(c); e != api.ErrFake || len(truth) > 0 {
			t.Error(i, "Fewest", truth, e)
		}
		if claim, left, e := expert.Ask(c); e != api.ErrFake || claim != 0 || left != 0 {
			t.Error(i, "Ask", claim, left, e)
		}
		for _, saying := range sayingsOf(c) {
			if kind, e := expert.Kind(c, saying); e != api.ErrFake || kind != 0 {
				t.Error(i, "Kind", kind, e)
			}
			if tells, e := expert.Tells(c, api.ExpertEvidence{One: saying, Two: 1}); e != api.ErrFake || tells != 0 {
				t.Error(i, "Tells", tells, e)
			}
		}
		mustClash(t, c)
	}
	for i, c := range []api.ExpertCase{chapterE(), chapterF(), about(1), ring(12), ladder(12)} {
		if chain, e := expert.Clash(c); e != api.ErrNone || len(chain) > 0 {
			t.Error(i, chain, e)
		}
	}
}

// P8.3, P8.5 and P8.8: numbers that are no sayings about claims, also if there is no truth.
func TestNoSaying(t *testing.T) {
	for _, c := range []api.ExpertCase{chapterE(), chapterG()} {
		for _, n := range of(0, 4, -4, 13, math.MinInt, math.MinInt+1, math.MaxInt) {
			if kind, e := expert.Kind(c, n); e != api.ErrArg || kind != 0 {
				t.Error(n, kind, e)
			}
			for _, pair := range [][2]int{{n, 1}, {-3, n}, {n, n}, {n, -n}} {
				if chain, e := expert.Chain(c, pair[0], pair[1]); e != api.ErrArg || len(chain) > 0 {
					t.Error(pair, chain, e)
				}
				if tells, e := expert.Tells(c, api.ExpertEvidence{One: pair[0], Two: pair[1]}); e != api.ErrRange || tells != 0 {
					t.Error(pair, tells, e)
				}
			}
		}
		for _, saying := range sayingsOf(c) {
			if chain, e := expert.Chain(c, saying, saying); e != api.ErrArg || len(chain) > 0 {
				t.Error(saying, chain, e)
			}
		}
	}
}

// P8.3
func TestCheckChain(t *testing.T) {
	same := about(2, 1, 1, 2, -2)
	for i, x := range []struct {
		c        api.ExpertCase
		chain    []api.ExpertStep
		from, to int
		e        api.Errno
	}{
		{chapterE(), steps(1, 3, 1), 1, 3, api.OK},
		{chapterE(), steps(-3, -1, 1), -3, -1, api.OK},
		{chapterE(), steps(1, 3, 1, 3, -2, 2, -2, 1, 0), 1, 1, api.OK},
		{chapterE(), steps(1, 3, 1, 3, -2, 2, -2, 1, 0, 1, 3, 1), 1, 3, api.OK},
		{chapterG(), clashG(), 1, 1, api.OK},
		{same, steps(-1, 1, 0), -1, 1, api.OK},
		{same, steps(2, 2, 1), 2, 2, api.OK},
		{same, steps(-2, -2, 1, -2, -2, 1), -2, -2, api.OK},
		{same, slices.Repeat(steps(2, 2, 1), 60), 2, 2, api.OK},
		{same, slices.Repeat(steps(2, 2, 1), 61), 0, 0, api.ErrMany},
		{same, make([]api.ExpertStep, 70000), 0, 0, api.ErrMany},
		{chapterE(), nil, 0, 0, api.ErrMany},
		{chapterE(), steps(1, 3, -1), 0, 0, api.ErrRange},
		{chapterE(), steps(1, 3, 3), 0, 0, api.ErrRange},
		{about(3), steps(1, 3, 0), 0, 0, api.ErrRange},
		{chapterE(), steps(1, 2, 1, 9, 9, 9), 0, 0, api.ErrRange}, // before ErrRule
		{chapterE(), steps(1, 3, math.MinInt), 0, 0, api.ErrRange},
		{chapterE(), steps(1, 3, math.MaxInt), 0, 0, api.ErrRange},
		{chapterE(), steps(1, 3, 0), 0, 0, api.ErrRule},
		{chapterE(), steps(3, 1, 1), 0, 0, api.ErrRule},
		{chapterE(), steps(-1, 3, 1), 0, 0, api.ErrRule},
		{chapterE(), steps(1, -3, 1), 0, 0, api.ErrRule},
		{chapterE(), steps(1, -1, 1), 0, 0, api.ErrRule},
		{chapterE(), steps(0, 0, 0), 0, 0, api.ErrRule},
		{chapterE(), steps(9, 9, 0), 0, 0, api.ErrRule},
		{chapterE(), steps(math.MinInt, 2, 0), 0, 0, api.ErrRule},
		{chapterE(), steps(-1, math.MinInt, 0), 0, 0, api.ErrRule},
		{chapterE(), steps(1, 3, 1, 1, 3, 1), 0, 0, api.ErrRule},
		{chapterE(), steps(1, 3, 1, -2, 1, 0), 0, 0, api.ErrRule},
		{chapterE(), steps(1, 3, 1, 3, -2, 2, -2, -1, 0), 0, 0, api.ErrRule},
		{chapterE(), steps(1, 2, 1, 3, -2, 2), 0, 0, api.ErrRule},
		{same, steps(1, -1, 0), 0, 0, api.ErrRule},
		{same, steps(2, -2, 1), 0, 0, api.ErrRule},
	} {
		if from, to, e := expert.CheckChain(x.c, x.chain); from != x.from || to != x.to || e != x.e {
			t.Error(i, from, to, e)
		}
		if e := expert.CheckClash(x.c, x.chain); x.e != api.OK && e != x.e {
			t.Error(i, "CheckClash", e)
		}
	}
}

// P8.3
func TestChain(t *testing.T) {
	around := about(5, -1, 2, -2, 3, -3, 4, -4, 5, -1, 4)
	for i, x := range []struct {
		c        api.ExpertCase
		from, to int
		many     int // 0 if there is none
	}{
		{chapterE(), 1, 3, 1},
		{chapterE(), 1, -2, 2},
		{chapterE(), -2, 1, 1},
		{chapterE(), 1, 2, 0},
		{chapterE(), 1, -1, 0},
		{chapterG(), 1, -1, 4},
		{chapterG(), -1, 1, 1},
		{about(2, 1, 1), -1, 1, 1},
		{about(2, 1, 1), 1, -1, 0},
		{about(2, 1, 1), -1, 2, 0},
		{about(2, 1, -1), 1, -1, 0},
		{about(1), 1, -1, 0},
		{around, 1, 4, 1},
		{around, 1, 5, 2},
		{around, 1, 3, 2},
		{around, -5, -1, 2},
		{ladder(12), 1, 12, 11},
		{ladder(12), -12, -1, 11},
		{ladder(12), 12, 1, 0},
		{ring(12), 12, 11, 11},
		{ring(12), -1, -2, 11},
		// the longest way through all sayings
		{with(ladder(12), -12, -12), 1, -1, 23},
		{with(ladder(12), 1, 1), -12, 12, 23},
	} {
		if x.many == 0 {
			if chain, e := expert.Chain(x.c, x.from, x.to); len(chain) > 0 || e != api.ErrNone {
				t.Error(i, chain, e)
			}
			continue
		}
		if chain := mustChain(t, x.c, x.from, x.to); len(chain) != x.many {
			t.Error(i, chain)
		}
	}
}

// P8.4
func TestCheckClash(t *testing.T) {
	short := about(1, 1, 1, -1, -1)
	for i, x := range []struct {
		c     api.ExpertCase
		chain []api.ExpertStep
		e     api.Errno
	}{
		{short, steps(1, -1, 1, -1, 1, 0), api.OK},
		{short, steps(-1, 1, 0, 1, -1, 1), api.OK},
		{short, steps(1, -1, 1), api.ErrSum},
		{short, steps(1, -1, 1, -1, 1, 0, 1, -1, 1), api.ErrSum},
		{chapterG(), clashG()[1:], api.ErrSum},
		// it leads back, but not over the opposite
		{chapterE(), steps(1, 3, 1, 3, -2, 2, -2, 1, 0), api.ErrSum},
		{about(1, 1, -1), steps(1, 1, 0), api.ErrSum},
		// it leads over the opposites of others, not of the first one
		{about(2, -1, 2, -2, -2, 2, 2, -2, 1), steps(1, 2, 0, 2, -2, 1, -2, 2, 2, 2, 1, 3), api.ErrSum},
		// from the saying in between it is one
		{about(2, -1, 2, -2, -2, 2, 2, -2, 1), steps(2, -2, 1, -2, 2, 2), api.OK},
		{short, slices.Repeat(steps(1, -1, 1, -1, 1, 0), 30), api.OK},
		{short, slices.Repeat(steps(1, -1, 1, -1, 1, 0), 31), api.ErrMany},
		{short, nil, api.ErrMany},
		{short, steps(1, -1, 2), api.ErrRange},
		{short, steps(1, -1, 1, 1, -1, 1), api.ErrRule},
	} {
		if e := expert.CheckClash(x.c, x.chain); e != x.e {
			t.Error(i, e)
		}
	}
	// one through all sayings
	if chain := mustClash(t, with(with(ladder(12), 1, 1), -12, -12)); len(chain) > api.MaxExpertSteps {
		t.Error(chain)
	}
}

// P8.8
func TestTells(t *testing.T) {
	loose := about(4, -1, 2, 3, 3)
	full := times(40, 3, 1, 2)
	for i, x := range []struct {
		c        api.ExpertCase
		one, two int
		tells    int
	}{
		{loose, -1, 2, api.ExpertNothing},
		{loose, 2, -1, api.ExpertNothing},
		{loose, 3, -4, api.ExpertNothing},
		{loose, 4, -4, api.ExpertNothing},
		{loose, 4, 3, api.ExpertNothing},
		{loose, 1, 2, api.ExpertMore},
		{loose, 1, -2, api.ExpertMore},
		{loose, 4, 4, api.ExpertMore},
		{loose, -3, 4, api.ExpertMore},
		{loose, 4, -3, api.ExpertMore},
		{loose, -3, -3, api.ExpertWrong},
		{chapterF(), -1, 2, api.ExpertWrong},
		{chapterF(), -3, -1, api.ExpertWrong},
		{chapterF(), -3, 1, api.ExpertNothing},
		// one more than there may be in a case
		{full, 1, 2, api.ExpertNothing},
		{full, 1, -2, api.ExpertMore},
	} {
		if tells := mustTell(t, x.c, x.one, x.two); tells != x.tells {
			t.Error(i, tells)
		}
	}
}
