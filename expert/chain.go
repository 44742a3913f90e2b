package expert

import (
	"iter"
	"slices"

	"oxgall/api"
)

// steps yields all steps from a saying.
func (f *file) steps(from int) iter.Seq[api.ExpertStep] {
	return func(yield func(api.ExpertStep) bool) {
		for by, e := range f.Evidence {
			if e.One == -from && !yield(api.ExpertStep{From: from, To: e.Two, By: by}) {
				return
			}
			if e.Two == -from && !yield(api.ExpertStep{From: from, To: e.One, By: by}) {
				return
			}
		}
	}
}

// isStep tells whether a step is one of this case.
func (f *file) isStep(step api.ExpertStep) bool {
	for s := range f.steps(step.From) {
		if s == step {
			return true
		}
	}
	return false
}

// isChain tells whether steps are a chain.
func (f *file) isChain(chain []api.ExpertStep) bool {
	for i, step := range chain {
		if !f.isStep(step) || i > 0 && step.From != chain[i-1].To {
			return false
		}
	}
	return true
}

// come returns all sayings to which chains lead from another one, those with fewer
// steps first, and by which step one comes to each on a shortest chain.
func (f *file) come(from int) ([]int, map[int]api.ExpertStep) {
	var none api.ExpertStep // no step, as 0 is no saying
	by := map[int]api.ExpertStep{}
	row := []int{from}
	for i := 0; i < len(row); i++ {
		for step := range f.steps(row[i]) {
			if step.To != from && by[step.To] == none {
				by[step.To] = step
				row = append(row, step.To)
			}
		}
	}
	return row[1:], by
}

// goOn returns a chain that goes on from a saying, in as few steps as can be, to
// another one that follows.
func (f *file) goOn(chain []api.ExpertStep, from, to int) []api.ExpertStep {
	row, by := f.come(from)
	// Going back from the end one meets all steps that are needed; the others lead nowhere.
	next := to
	for _, saying := range slices.Backward(row) {
		if saying == next {
			next = by[saying].From
		} else {
			delete(by, saying)
		}
	}
	memory := make([]api.ExpertStep, len(chain)+len(by))
	longer := memory[:copy(memory, chain):len(memory)]
	for _, saying := range row {
		if step, found := by[saying]; found {
			longer = append(longer, step)
		}
	}
	return longer
}
