package edge

// held is the blocks on a bench that are left there until they are needed again, and
// how many books were kept so far.
type held struct {
	blocks marks
	kept   int
}

// ways returns in how many ways best plans fetch that keep no other books than those
// that may be kept.
//
// A plan that keeps some books leaves, at each book, at most Room - 1 others of them
// parted by it. Wherever this holds for some books, a plan keeps them all, and maybe
// more: if the bench is full, one of the blocks there is not that of a parted one, and
// can be put back. So a way of best plans is just the most books for which this holds.
func (d *day) ways(mayKeep func(book int) bool) int64 {
	most := len(d.best().kept)
	benches := map[held]int64{{}: 1}
	for book := range d.Books {
		next := map[held]int64{}
		for h, many := range benches {
			d.dipHeld(h, book, mayKeep, func(after held) { next[after] += many })
		}
		deleteFewer(next)
		benches = next
	}
	return benches[held{kept: most}]
}

// deleteFewer deletes the benches of which another one holds the same blocks, with more
// books kept: what is kept behind it can be kept behind that one too, so none of them
// comes to the most books.
func deleteFewer(benches map[held]int64) {
	most := map[marks]int{}
	for h := range benches {
		most[h.blocks] = max(most[h.blocks], h.kept)
	}
	for h := range benches {
		if h.kept < most[h.blocks] {
			delete(benches, h)
		}
	}
}

// dipHeld tells what may be held behind a book, if it can be dipped.
func (d *day) dipHeld(h held, book int, mayKeep func(book int) bool, tell func(after held)) {
	block := d.Books[book]
	if h.blocks[block] {
		if !mayKeep(book) {
			return
		}
		h.kept++
	}
	h.blocks[block] = false
	if h.blocks.many() > d.Room-1 {
		return
	}
	tell(h)
	h.blocks[block] = true
	tell(h)
}
