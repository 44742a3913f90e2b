package stroke

import (
	"slices"

	"oxgall/api"
)

// moved returns a list after a move, and whether it is a move of the list.
func (b *bench) moved(list []int, m api.StrokeMove) ([]int, bool) {
	if m.At < 0 || m.At > len(list) {
		return nil, false
	}
	front, rest := list[:m.At], list[m.At:]
	switch {
	case m.Kind == api.StrokePut && b.areStrokes(m.Stroke):
		return slices.Concat(front, []int{m.Stroke, -m.Stroke}, rest), true
	case m.Stroke != 0 || len(rest) < 2:
		return nil, false
	case m.Kind == api.StrokeSwap && b.exchange(rest[0], rest[1]):
		return slices.Concat(front, []int{rest[1], rest[0]}, rest[2:]), true
	case m.Kind == api.StrokeTake && rest[0] == -rest[1]:
		return slices.Concat(front, rest[2:]), true
	}
	return nil, false
}

// undoing returns the indexes of two strokes that undo each other once they
// are neighbours, as they can be, and whether there are any.
func (b *bench) undoing(list []int) (int, int, bool) {
search:
	for two := range list {
		for one := two - 1; one >= 0; one-- {
			switch {
			case list[one] == -list[two]:
				return one, two, true
			case !b.exchange(list[one], list[two]):
				continue search
			}
		}
	}
	return 0, 0, false
}

// walk is a list with the moves that have led to it, and for each of them the
// move that leads back.
type walk struct {
	*bench
	list         []int
	moves, backs []api.StrokeMove
}

func (w *walk) do(move, back api.StrokeMove) {
	w.list, _ = w.moved(w.list, move)
	w.moves = append(w.moves, move)
	w.backs = append(w.backs, back)
}

func (w *walk) swap(at int) {
	swap := api.StrokeMove{Kind: api.StrokeSwap, At: at}
	w.do(swap, swap)
}

func (w *walk) take(at int) {
	take := api.StrokeMove{Kind: api.StrokeTake, At: at}
	put := api.StrokeMove{Kind: api.StrokePut, At: at, Stroke: w.list[at]}
	w.do(take, put)
}

// shortened returns the moves that lead from a list to its short form, and
// those that lead back to the list.
func (b *bench) shortened(list []int) (there, again []api.StrokeMove) {
	w := walk{bench: b, list: list}
	for one, two, some := b.undoing(w.list); some; one, two, some = b.undoing(w.list) {
		for at := one; at < two-1; at++ {
			w.swap(at)
		}
		w.take(two - 1)
	}
	for to, stroke := range b.drawn(list).short() {
		for at := to + slices.Index(w.list[to:], stroke); at > to; at-- {
			w.swap(at - 1)
		}
	}
	slices.Reverse(w.backs)
	return w.moves, w.backs
}
