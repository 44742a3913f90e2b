package lists

import "iter"

// Set is some indexes below 64, as bits. Gone through as numbers, each set comes
// before all others that contain it.
type Set uint64

// All returns the set of all indexes below a length.
func All(length int) Set { return 1<<length - 1 }

// With returns a set with one more index.
func (s Set) With(index int) Set { return s | 1<<index }

// Without returns a set without an index.
func (s Set) Without(index int) Set { return s &^ (1 << index) }

// Has tells whether an index is in a set.
func (s Set) Has(index int) bool { return s>>index&1 == 1 }

// Contains tells whether all indexes of another set are in a set.
func (s Set) Contains(other Set) bool { return s&other == other }

// Indexes yields the indexes of a set, increasing.
func (s Set) Indexes() iter.Seq[int] {
	return func(yield func(int) bool) {
		for index := 0; s>>index > 0; index++ {
			if s.Has(index) && !yield(index) {
				return
			}
		}
	}
}
