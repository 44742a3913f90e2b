package edge

import (
	"iter"
	"slices"

	"oxgall/lists"
)

// proof is moments with their number.
type proof struct {
	moments []int
	number  int
}

// isMore tells whether a proof has a greater number than another one.
func isMore(one, two proof) bool { return one.number > two.number }

// noMoments returns the proof without moments.
func (d *day) noMoments() proof { return proof{nil, d.count(d.isNew)} }

// isParted tells whether a moment parts a book.
func (d *day) isParted(book, moment int) bool {
	return !d.isNew(book) && d.before[book] < moment && moment < book
}

// longer returns a proof with one moment more behind its last one. What it parts and
// any moment before it does too is parted by the last one of these.
func (d *day) longer(p proof, moment int) proof {
	last, many := -1, len(p.moments)
	if many > 0 {
		last = p.moments[many-1]
	}
	isGained := func(book int) bool { return d.isParted(book, moment) && !d.isParted(book, last) }
	// Several proofs begin with the same moments, so their capacity is cut.
	return proof{append(p.moments[:many:many], moment), p.number + d.count(isGained) - (d.Room - 1)}
}

// allLonger yields some proofs with one moment more each.
func (d *day) allLonger(proofs []proof, moment int) iter.Seq[proof] {
	return func(yield func(proof) bool) {
		for _, p := range proofs {
			if !yield(d.longer(p, moment)) {
				return
			}
		}
	}
}

// greatest returns a proof with the greatest number of all. How much a moment adds
// depends just on the one before it, so one greatest proof is enough for each last one.
//
// This number is the fetches of a best plan (P10.8): to keep the most books, at most
// Room - 1 of them parted at each book, is a linear program; in its matrix, with a row
// for each book and a column for each one that can be kept, the ones of a column are
// side by side, so that whole numbers solve it, and its dual program, as well as any.
// The dual one chooses moments, none of which helps twice, for the least sum of
// Room - 1 for each moment and 1 for each book, not a new one, that none parts. This
// sum is how many books a best plan keeps, and all other books make the number.
func (d *day) greatest() proof {
	proofs := []proof{d.noMoments()}
	for moment := range d.Books {
		best, _ := lists.Least(d.allLonger(proofs, moment), isMore)
		proofs = append(proofs, best)
	}
	best, _ := lists.Least(slices.Values(proofs), isMore)
	return best
}
