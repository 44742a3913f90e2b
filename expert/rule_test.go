package expert_test

import (
	"fmt"
	"math"
	"slices"
	"testing"

	"oxgall/api"
	"oxgall/expert"
)

// tell returns all that all functions say of a case, numbers, which are sayings too, and steps.
func tell(c api.ExpertCase, numbers []int, chain []api.ExpertStep) string {
	out := fmt.Sprintln(expert.CheckCase(c), expert.CheckTruth(c, numbers), expert.CheckClash(c, chain))
	say := func(x ...any) { out += fmt.Sprintln(x...) }
	truth, e := expert.Truth(c)
	say(truth, e)
	from, to, e := expert.CheckChain(c, chain)
	say(from, to, e)
	clash, e := expert.Clash(c)
	say(clash, e)
	sure, e := expert.Sure(c)
	say(sure, e)
	tied, e := expert.Tied(c)
	say(tied, e)
	count, e := expert.Count(c)
	say(count, e)
	fewest, e := expert.Fewest(c)
	say(fewest, e)
	claim, left, e := expert.Ask(c)
	say(claim, left, e)
	for _, n := range append(slices.Clone(numbers[:min(len(numbers), 3)]), -1, 3) {
		kind, e := expert.Kind(c, n)
		say(kind, e)
		for _, m := range of(1, -2, n, 13) {
			way, e := expert.Chain(c, n, m)
			say(way, e)
			tells, e := expert.Tells(c, api.ExpertEvidence{One: n, Two: m})
			say(tells, e)
		}
	}
	return out
}

// R4, R9 and R10: arguments stay as they are, and equal calls return equal results.
func TestAgain(t *testing.T) {
	cases(t, func(d dice, c api.ExpertCase) {
		numbers, chain := of(1, 0, d.IntN(2))[:min(3, c.Claims)], clashG()
		wasC, wasNumbers, wasChain := with(c, 1, 1), slices.Clone(numbers), slices.Clone(chain)
		once := tell(c, numbers, chain)
		tell(d.small(), numbers, chain)
		if again := tell(c, numbers, chain); again != once {
			t.Fatal("not the same again", c, once, again)
		}
		if !slices.Equal(c.Evidence, wasC.Evidence[:len(c.Evidence)]) || !slices.Equal(numbers, wasNumbers) || !slices.Equal(chain, wasChain) {
			t.Fatal("an argument was changed", c, numbers, chain)
		}
	})
}

// R4: nothing is written behind the end of an argument.
func TestCapacity(t *testing.T) {
	c, numbers, chain := chapterG(), of(1, 0, 1, 77, 88), clashG()
	tell(api.ExpertCase{Claims: 3, Evidence: c.Evidence[:2]}, numbers[:3], chain[:1])
	if !slices.Equal(c.Evidence, chapterG().Evidence) || !slices.Equal(numbers, of(1, 0, 1, 77, 88)) || !slices.Equal(chain, clashG()) {
		t.Error("an argument was changed", c, numbers, chain)
	}
}

// R4: what a caller writes into a result, or an argument, changes no other result.
func TestMemory(t *testing.T) {
	c, g := chapterF(), chapterG()
	want, wantG := tell(chapterF(), of(1, 0, 1), clashG()), tell(chapterG(), of(1, 0, 1), clashG())
	truth, _ := expert.Truth(c)
	chain, _ := expert.Chain(c, 1, -2)
	sure, _ := expert.Sure(c)
	tied, _ := expert.Tied(c)
	fewest, _ := expert.Fewest(c)
	clash, _ := expert.Clash(g)
	truth[0], sure[0], tied[0][0], fewest[0] = 7, 7, 7, 7
	chain[0], clash[0] = api.ExpertStep{}, api.ExpertStep{}
	if again := tell(c, of(1, 0, 1), clashG()); again != want {
		t.Error(again, want)
	}
	if again := tell(g, of(1, 0, 1), clashG()); again != wantG {
		t.Error(again, wantG)
	}
	truth, _ = expert.Truth(c)
	chain, _ = expert.Chain(c, 1, -2)
	c.Evidence[1] = api.ExpertEvidence{}
	if !slices.Equal(truth, of(1, 0, 1)) || !slices.Equal(chain, steps(1, 3, 1, 3, -2, 2)) {
		t.Error(truth, chain)
	}
	// groups share no memory with each other, even behind their ends
	tied, _ = expert.Tied(about(5, -1, -3, 1, 3, -2, 5, 2, -5))
	_ = append(tied[0], 77)
	if !sameGroups(tied, groups(of(1, -3), of(2, 5))) {
		t.Error(tied)
	}
}

// R3: an empty list is as a nil one.
func TestEmpty(t *testing.T) {
	for _, claims := range of(0, 1, 3, 12, 13) {
		c := api.ExpertCase{Claims: claims, Evidence: []api.ExpertEvidence{}}
		if tell(about(claims), nil, nil) != tell(c, []int{}, []api.ExpertStep{}) {
			t.Error("nil and empty differ", c)
		}
	}
	if tell(chapterG(), nil, nil) != tell(chapterG(), []int{}, []api.ExpertStep{}) {
		t.Error("nil and empty differ")
	}
}

// P1 and R5: every function ends, whatever its arguments are.
func TestAnyNumber(t *testing.T) {
	ends := []int{
		math.MinInt, math.MinInt + 1, -41, -13, -12, -2, -1, 0, 1, 2, 12, 13, 40, 60, math.MaxInt - 1, math.MaxInt,
	}
	for _, one := range ends {
		for _, two := range ends {
			for _, n := range ends {
				tell(about(n, one, two), of(one, two), steps(one, two, n))
				tell(about(3, 1, n, one, two), of(n, one, two), steps(n, two, one))
			}
			tell(about(2, 1, -2, -1, 2), of(one, two), steps(one, two, 0, two, one, 1))
			tell(chapterG(), of(one, two, 0), steps(1, one, 1, one, two, 2))
		}
	}
	many, long := make([]int, 70000), make([]api.ExpertStep, 70000)
	for _, c := range []api.ExpertCase{ring(12), about(12), times(40, 12, 12, 12), with(with(ladder(12), 1, 1), -12, -12)} {
		tell(c, many, long)
		tell(c, make([]int, 12), make([]api.ExpertStep, 60))
	}
	tell(times(70000, 12, 1, 1), of(0), clashG())
}
