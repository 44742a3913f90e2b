package edge

import (
	"slices"

	"oxgall/api"
	"oxgall/lists"
)

// marks tells of each block whether it is marked.
type marks [api.MaxEdgeBlocks]bool

// many returns how many blocks are marked.
func (m marks) many() int {
	many := 0
	for _, is := range m {
		if is {
			many++
		}
	}
	return many
}

// bench is the bench of a day when some of its books have been dipped: the blocks that
// lie there, and the plan and the books that it kept so far.
type bench struct {
	*day
	lies marks
	plan []int
	kept []int
	row  [api.MaxEdgeBooks]int // where each plan grows
}

// empty returns the bench of a day before its first book.
func (d *day) empty() *bench {
	b := &bench{day: d}
	b.begin()
	return b
}

// begin takes everything from the bench.
func (b *bench) begin() {
	clear(b.lies[:])
	b.plan = b.row[:0:len(b.Books)]
	b.kept = nil
}

// next returns the block of the book that is dipped next.
func (b *bench) next() int { return b.Books[len(b.plan)] }

// needsNone tells whether nothing is put back before the next book.
func (b *bench) needsNone() bool { return b.lies[b.next()] || b.lies.many() < b.Room }

// canPutBack tells whether a plan can put back a block, or none, before the next book.
func (b *bench) canPutBack(block int) bool {
	if b.needsNone() {
		return block == -1
	}
	return lists.Within(0, api.MaxEdgeBlocks-1, block) && b.lies[block]
}

// dip dips the next book. Before it a block, or none, is put back, as a plan can do it.
func (b *bench) dip(back int) {
	if back >= 0 {
		b.lies[back] = false
	}
	if b.lies[b.next()] {
		b.kept = append(b.kept, len(b.plan))
	}
	b.lies[b.next()] = true
	b.plan = append(b.plan, back)
}

// follow dips the next books as a plan says, as long as one can say so.
func (b *bench) follow(plan []int) {
	for _, back := range plan {
		if !b.canPutBack(back) {
			return
		}
		b.dip(back)
	}
}

// fetches returns for how many books a block was fetched.
func (b *bench) fetches() int { return len(b.plan) - len(b.kept) }

// planned returns the bench behind the last book, if a list is a plan.
func (d *day) planned(plan []int) (*bench, api.Errno) {
	if len(plan) != len(d.Books) {
		return nil, api.ErrEqual
	}
	b := d.empty()
	b.follow(plan)
	if len(b.plan) < len(plan) {
		return nil, api.ErrRule
	}
	return b, api.OK
}

// best returns the bench behind the last book if always the block that is needed last
// is put back. No plan has fewer fetches: change one that puts back another block, and
// leaves the last one, to do the opposite. From then on its bench differs from the old
// one in one block at most, and it fetches once more only if the last one is needed
// while they still differ. But the other block is needed before that, and there just
// the old plan fetched it.
func (d *day) best() *bench {
	b := d.empty()
	for range d.Books {
		if b.needsNone() {
			b.dip(-1)
		} else {
			b.dip(b.neededLast())
		}
	}
	return b
}

// neededLast returns the block on a full bench that is needed last, the first one of
// those that are not needed any more.
func (b *bench) neededLast() int {
	left := b.lies
search:
	for _, block := range b.Books[len(b.plan):] {
		others := left
		others[block] = false
		if others == (marks{}) {
			break search
		}
		left = others
	}
	return slices.Index(left[:], true)
}
