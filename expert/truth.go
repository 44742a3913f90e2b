package expert

import (
	"iter"
	"slices"

	"oxgall/api"
	"oxgall/lists"
)

// holds tells whether a saying holds if each claim has a number.
func holds(numbers []int, saying int) bool {
	if saying > 0 {
		return numbers[saying-1] == 1
	}
	return numbers[-1-saying] == 0
}

// isTruth tells whether a number for each claim is a truth.
func (f *file) isTruth(numbers []int) bool {
	return lists.Every(f.Evidence, func(e api.ExpertEvidence) bool {
		return holds(numbers, e.One) || holds(numbers, e.Two)
	})
}

// truths yields all truths, in their order, each one in memory of its own.
func (f *file) truths() iter.Seq[[]int] {
	return func(yield func([]int) bool) {
		marks := make([]int, f.Claims) // 1 for each claim that is taken as true
	search:
		for {
			if f.isTruth(marks) && !yield(slices.Clone(marks)) {
				break search
			}
			for claim := len(marks) - 1; claim >= 0; claim-- {
				if marks[claim] == 0 {
					marks[claim] = 1
					clear(marks[claim+1:])
					continue search
				}
			}
			break search
		}
	}
}

// firstTruth returns the first truth, if there is one.
func (f *file) firstTruth() []int {
	var first []int
	for truth := range f.truths() {
		first = truth
		break
	}
	return first
}

// claimsTrue returns how many claims are true in a truth.
func claimsTrue(truth []int) int {
	sum := 0
	for _, number := range truth {
		sum += number
	}
	return sum
}

// fewerTrue tells whether fewer claims are true in a truth than in another one.
func fewerTrue(one, two []int) bool { return claimsTrue(one) < claimsTrue(two) }
