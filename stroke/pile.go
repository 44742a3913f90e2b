package stroke

import (
	"iter"
	"slices"

	"oxgall/api"
	"oxgall/lists"
)

// bench is a valid bench with which of its lines meet: those that cross, and
// each line with itself.
type bench struct {
	api.StrokeBench
	meet [api.MaxStrokeLines][api.MaxStrokeLines]bool
}

// ruled returns a bench with which of its lines meet, if it is valid.
func ruled(b api.StrokeBench) (*bench, api.Errno) {
	if b.Lines < 1 || b.Lines > api.MaxStrokeLines || len(b.Cross) > api.MaxStrokeCross {
		return nil, api.ErrMany
	}
	r := &bench{StrokeBench: b}
	for line := range b.Lines {
		r.meet[line][line] = true
	}
	for _, pair := range b.Cross {
		low, high := pair[0], pair[1]
		if low < 0 || low >= high || high >= b.Lines || r.meet[low][high] {
			return nil, api.ErrArg
		}
		r.meet[low][high], r.meet[high][low] = true, true
	}
	return r, api.OK
}

// areStrokes tells whether all numbers are strokes of a bench.
func (b *bench) areStrokes(numbers ...int) bool {
	for _, n := range numbers {
		if n == 0 || n < -b.Lines || n > b.Lines {
			return false
		}
	}
	return true
}

// lineOf returns the line along which a stroke is drawn.
func lineOf(stroke int) int { return max(stroke, -stroke) - 1 }

// exchange tells whether two strokes can be exchanged.
func (b *bench) exchange(one, two int) bool { return !b.meet[lineOf(one)][lineOf(two)] }

// meeting yields the lines that meet a line, itself among them.
func (b *bench) meeting(line int) iter.Seq[int] {
	return func(yield func(int) bool) {
		for other, meets := range b.meet[line] {
			if meets && !yield(other) {
				return
			}
		}
	}
}

// before tells whether a stroke comes before another one in the order of
// strokes. They are along different lines, as all that can be first are.
func before(one, two int) bool { return lineOf(one) < lineOf(two) }

// back returns the strokes back of a list, from its last stroke to its first one.
func back(list []int) []int {
	out := make([]int, len(list))
	copy(out, list)
	slices.Reverse(out)
	for i := range out {
		out[i] = -out[i]
	}
	return out
}

// across stands in the row of a line for a stroke along a line that crosses it.
const across = api.MaxStrokeLines + 1

// row is what was drawn along and across one line, from the first stroke on,
// with zeros behind it: there is always one.
type row [api.MaxStrokeWay + 1]int

// long returns how much is in a row.
func (r *row) long() int { return slices.Index(r[:], 0) }

// last returns what is last in a row, or 0.
func (r *row) last() int {
	n := r.long()
	if n == 0 {
		return 0
	}
	return r[n-1]
}

func (r *row) add(n int) { r[r.long()] = n }

func (r *row) dropLast() { clear(r[r.long()-1:]) }

func (r *row) dropFirst() {
	n := copy(r[:], r[1:])
	clear(r[n:])
}

// pile is a bench with a row for each of its lines. Where two strokes that can
// be exchanged are in one row, both lie across it, and it does not show which
// one is which: so their order does not show, and lists have the same rows just
// if they make the same pattern.
type pile struct {
	bench
	rows [api.MaxStrokeLines]row
}

// drawn returns the pile of lists that are drawn one behind another.
func (b *bench) drawn(lists ...[]int) *pile {
	p := &pile{bench: *b}
	for _, l := range lists {
		for _, stroke := range l {
			p.draw(stroke)
		}
	}
	return p
}

// same tells whether two lists make the same pattern: whether the second one,
// drawn back, undoes the first one.
func (b *bench) same(one, two []int) bool { return b.drawn(one, back(two)).isEmpty() }

// draw adds a stroke, or takes away the one that it undoes. If that one is the
// last in its own row, then in the other rows only marks can be behind its mark,
// and they are all alike: the last one is taken away for it.
func (p *pile) draw(stroke int) {
	own := lineOf(stroke)
	undoes := p.rows[own].last() == -stroke
	for line := range p.meeting(own) {
		switch {
		case undoes:
			p.rows[line].dropLast()
		case line == own:
			p.rows[line].add(stroke)
		default:
			p.rows[line].add(across)
		}
	}
}

// lift takes away a stroke that can be first.
func (p *pile) lift(stroke int) {
	for line := range p.meeting(lineOf(stroke)) {
		p.rows[line].dropFirst()
	}
}

func (p *pile) isEmpty() bool { return p.rows == [api.MaxStrokeLines]row{} }

// firsts yields the strokes that can be first, in their order: of each line
// there is one at most.
func (p *pile) firsts() iter.Seq[int] {
	return func(yield func(int) bool) {
		for line := range p.Lines {
			if first := p.rows[line][0]; p.areStrokes(first) && !yield(first) {
				return
			}
		}
	}
}

// shared yields the strokes that can be first in two piles.
func (p *pile) shared(q *pile) iter.Seq[int] {
	return func(yield func(int) bool) {
		for stroke := range p.firsts() {
			if q.rows[lineOf(stroke)][0] == stroke && !yield(stroke) {
				return
			}
		}
	}
}

// short takes the whole pile away, and returns its short form.
func (p *pile) short() []int {
	var out []int
	for {
		stroke, some := lists.Least(p.firsts(), before)
		if !some {
			return out
		}
		p.lift(stroke)
		out = append(out, stroke)
	}
}

// common takes away what two piles begin with, and returns its short form.
func (p *pile) common(q *pile) []int {
	var out []int
	for {
		stroke, some := lists.Least(p.shared(q), before)
		if !some {
			return out
		}
		p.lift(stroke)
		q.lift(stroke)
		out = append(out, stroke)
	}
}

// rounds takes the whole pile away, and returns its rounds.
func (p *pile) rounds() [][]int {
	var out [][]int
	for !p.isEmpty() {
		round := slices.Collect(p.firsts())
		for _, stroke := range round {
			p.lift(stroke)
		}
		out = append(out, round)
	}
	return out
}
