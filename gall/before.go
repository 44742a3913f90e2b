package gall

import (
	"slices"

	"oxgall/api"
	"oxgall/lists"
)

// befores is for each colour which ones come before it by a pair.
type befores [api.MaxGallColours]lists.Set

// paired returns which colours come before each by some pairs.
func paired(pairs [][2]int) befores {
	var b befores
	for _, pair := range pairs {
		b[pair[1]] = b[pair[1]].With(pair[0])
	}
	return b
}

// turned returns which colours come before each if all pairs are turned round.
func (b befores) turned() befores {
	var turned befores
	for second, firsts := range b {
		for first := range firsts.Indexes() {
			turned[first] = turned[first].With(second)
		}
	}
	return turned
}

// leadBack tells whether some colours lead back to the first one of them. Those
// that do not are freed round by round: first those before which only such come
// as have none before them.
func (b befores) leadBack() bool {
	for range b {
		for second, firsts := range b {
			for first := range firsts.Indexes() {
				if b[first] == 0 {
					b[second] = b[second].Without(first)
				}
			}
		}
	}
	return b != befores{}
}

// pushed returns for each of so many colours the least number that is its own at
// least, and greater than those of all colours that come before it.
func (b befores) pushed(many int, own func(colour int) int64) []int64 {
	out := make([]int64, many)
	// No more colours than there are push one another in a row, so in as many
	// rounds each number is pushed by all that come before it.
	for range many {
		for colour := range many {
			numbers := []int64{own(colour)}
			for first := range b[colour].Indexes() {
				numbers = append(numbers, out[first]+1)
			}
			out[colour] = slices.Max(numbers)
		}
	}
	return out
}
