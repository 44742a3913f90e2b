package expert

import (
	"iter"

	"oxgall/api"
	"oxgall/lists"
)

// follows is which sayings follow from each, by their places in the order of
// sayings: this one itself, and those to which chains lead from it.
type follows [2 * api.MaxExpertClaims]lists.Set

// file is a valid case with what follows from its evidence.
type file struct {
	api.ExpertCase
	follows
}

// opened returns a case with what follows, if it is valid.
func opened(c api.ExpertCase) (*file, api.Errno) {
	if e := CheckCase(c); e != api.OK {
		return nil, e
	}
	f := &file{ExpertCase: c}
	f.follows = f.followed()
	return f, api.OK
}

// openedTrue returns a case with what follows, if there is a truth.
func openedTrue(c api.ExpertCase) (*file, api.Errno) {
	f, e := opened(c)
	if e != api.OK {
		return nil, e
	}
	if f.isFake() {
		return nil, api.ErrFake
	}
	return f, api.OK
}

// areSayings tells whether all numbers are sayings about so many claims.
func areSayings(claims int, numbers ...int) bool {
	isSaying := func(n int) bool { return n != 0 && -claims <= n && n <= claims }
	return lists.Every(numbers, isSaying)
}

// place returns the place of a saying in their order.
func place(saying int) int {
	if saying > 0 {
		return 2*saying - 2
	}
	return -2*saying - 1
}

// sayings yields all sayings, in their order.
func (f *file) sayings() iter.Seq[int] {
	return func(yield func(int) bool) {
		for claim := range f.Claims {
			if !yield(claim+1) || !yield(-1-claim) {
				return
			}
		}
	}
}

// all returns all sayings that are meant, in their order.
func (f *file) all(isMeant func(saying int) bool) []int {
	var all []int
	for saying := range f.sayings() {
		if isMeant(saying) {
			all = append(all, saying)
		}
	}
	return all
}

// followed returns what follows from each saying, which grows until it stays the same.
func (f *file) followed() follows {
	var now, before follows
	for saying := range f.sayings() {
		now[place(saying)] = lists.Set(0).With(place(saying))
	}
	for now != before {
		before = now
		for saying := range f.sayings() {
			for step := range f.steps(saying) {
				now[place(saying)] |= now[place(step.To)]
			}
		}
	}
	return now
}

// leads tells whether a saying follows from one that is equal, or by a chain.
func (f *follows) leads(from, to int) bool { return f[place(from)].Has(place(to)) }

// clashing returns a saying that leads to its opposite and back, if there is one. If
// there is none, there is a truth: as long as a claim is open, one of its sayings does
// not lead to its opposite, and can be taken with all that follows from it; nothing of
// that contradicts what was taken before, or the saying would not be open any more.
func (f *file) clashing() (int, bool) {
	for saying := range f.sayings() {
		if f.leads(saying, -saying) && f.leads(-saying, saying) {
			return saying, true
		}
	}
	return 0, false
}

// isFake tells whether there is no truth.
func (f *file) isFake() bool {
	_, found := f.clashing()
	return found
}

// isSure tells whether a saying holds in each truth, if there is one.
func (f *file) isSure(saying int) bool { return f.leads(-saying, saying) }

// needs tells whether a saying holds only in truths in which another one does, if
// there is a truth. If it does not lead to the other one, holds in some truth, and the
// other one not in each, then what follows from it, and what follows from the opposite
// of the other one, do not contradict each other, so both can be taken at once.
func (f *file) needs(one, two int) bool {
	return f.leads(one, two) || f.isSure(-one) || f.isSure(two)
}

// areTied tells whether two sayings are tied, if there is a truth.
func (f *file) areTied(one, two int) bool { return f.needs(one, two) && f.needs(two, one) }
