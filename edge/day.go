package edge

import (
	"iter"

	"oxgall/api"
	"oxgall/lists"
)

// day is a valid day with the book before each book, -1 for new ones.
type day struct {
	api.EdgeDay
	before [api.MaxEdgeBooks]int
}

// opened returns a day with its books before, if it is valid.
func opened(d api.EdgeDay) (*day, api.Errno) {
	if e := CheckDay(d); e != api.OK {
		return nil, e
	}
	o := &day{EdgeDay: d}
	for block := range api.MaxEdgeBlocks {
		last := -1
		for book := range o.of(block) {
			o.before[book] = last
			last = book
		}
	}
	return o, api.OK
}

// openedFor returns a day with its books before, if it is valid and has a book.
func openedFor(d api.EdgeDay, book int) (*day, api.Errno) {
	o, e := opened(d)
	switch {
	case e != api.OK:
		return nil, e
	case !o.isBook(book):
		return nil, api.ErrArg
	}
	return o, api.OK
}

// with returns a day whose bench has room for more blocks, or for fewer.
func (d *day) with(room int) *day {
	return &day{api.EdgeDay{Room: room, Books: d.Books}, d.before}
}

// of yields all books with a block, increasing.
func (d *day) of(block int) iter.Seq[int] {
	return func(yield func(int) bool) {
		for book, its := range d.Books {
			if its == block && !yield(book) {
				return
			}
		}
	}
}

func (d *day) isBook(book int) bool { return lists.Within(0, len(d.Books)-1, book) }

func (d *day) isNew(book int) bool { return d.before[book] < 0 }

// count returns how many books are meant.
func (d *day) count(isMeant func(book int) bool) int {
	many := 0
	for book := range d.Books {
		if isMeant(book) {
			many++
		}
	}
	return many
}
