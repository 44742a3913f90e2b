package stroke_test

import (
	"math/rand/v2"
	"slices"
	"testing"

	"oxgall/api"
	"oxgall/stroke"
)

// chapterB is the bench of the chapter's examples.
func chapterB() api.StrokeBench { return lines(4, 0, 1, 1, 2, 2, 3) }

// lines returns a bench with so many lines, of which the given pairs cross.
func lines(n int, cross ...int) api.StrokeBench {
	b := api.StrokeBench{Lines: n}
	for i := 0; i < len(cross); i += 2 {
		b.Cross = append(b.Cross, [2]int{cross[i], cross[i+1]})
	}
	return b
}

// pairs returns all pairs of so many lines.
func pairs(n int) [][2]int {
	var out [][2]int
	for high := range n {
		for low := range high {
			out = append(out, [2]int{low, high})
		}
	}
	return out
}

// benches returns all benches with so many lines.
func benches(n int) []api.StrokeBench {
	all := pairs(n)
	var out []api.StrokeBench
	for set := range 1 << len(all) {
		b := api.StrokeBench{Lines: n}
		for i, p := range all {
			if set>>i&1 == 1 {
				b.Cross = append(b.Cross, p)
			}
		}
		out = append(out, b)
	}
	return out
}

// of returns a list, swap, take and put moves.
func of(l ...int) []int { return l }

func swap(at int) api.StrokeMove { return api.StrokeMove{Kind: api.StrokeSwap, At: at} }
func take(at int) api.StrokeMove { return api.StrokeMove{Kind: api.StrokeTake, At: at} }
func put(at, stroke int) api.StrokeMove {
	return api.StrokeMove{Kind: api.StrokePut, At: at, Stroke: stroke}
}

// chain returns a list of moves.
func chain(m ...api.StrokeMove) []api.StrokeMove { return m }

// lineOf returns the line of a stroke.
func lineOf(s int) int {
	if s < 0 {
		return -1 - s
	}
	return s - 1
}

// free tells by the pairs of a bench whether two strokes can be exchanged.
func free(b api.StrokeBench, s, t int) bool {
	low, high := min(lineOf(s), lineOf(t)), max(lineOf(s), lineOf(t))
	return low != high && !slices.Contains(b.Cross, [2]int{low, high})
}

// order compares two strokes in the order of strokes.
func order(s, t int) int {
	if lineOf(s) != lineOf(t) {
		return lineOf(s) - lineOf(t)
	}
	return t - s
}

// turned returns the strokes back of a list, the last one first.
func turned(l []int) []int {
	var out []int
	for _, s := range l {
		out = slices.Insert(out, 0, -s)
	}
	return out
}

// along returns the strokes of a list along two lines.
func along(l []int, one, two int) []int {
	return slices.DeleteFunc(slices.Clone(l), func(s int) bool { return lineOf(s) != one && lineOf(s) != two })
}

// joined returns lists one behind another.
func joined(lists ...[]int) []int { return slices.Concat(lists...) }

// plainShort finds a short form in lists alone: pairs that undo each other are
// taken away until there are none, and then the least stroke that can be first
// is, as often as there is one.
func plainShort(b api.StrokeBench, l []int) []int {
	l = slices.Clone(l)
	for i := 0; i < len(l); i++ {
		for j := i + 1; j < len(l); j++ {
			if l[i] == -l[j] {
				l = slices.Delete(slices.Delete(l, j, j+1), i, i+1)
				i = -1
				break
			}
			if !free(b, l[i], l[j]) {
				break
			}
		}
	}
	var out []int
	for len(l) > 0 {
		best := -1
		for i, s := range l {
			first := !slices.ContainsFunc(l[:i], func(t int) bool { return !free(b, s, t) })
			if first && (best < 0 || order(s, l[best]) < 0) {
				best = i
			}
		}
		out = append(out, l[best])
		l = slices.Delete(l, best, best+1)
	}
	return out
}

// movesOf returns all moves of a list.
func movesOf(b api.StrokeBench, l []int) []api.StrokeMove {
	var out []api.StrokeMove
	for at := range len(l) + 1 {
		if at+1 < len(l) && free(b, l[at], l[at+1]) {
			out = append(out, swap(at))
		}
		if at+1 < len(l) && l[at] == -l[at+1] {
			out = append(out, take(at))
		}
		for k := range b.Lines {
			out = append(out, put(at, k+1), put(at, -1-k))
		}
	}
	return out
}

// after returns a list after one of its moves.
func after(l []int, m api.StrokeMove) []int {
	out := slices.Clone(l)
	switch m.Kind {
	case api.StrokeSwap:
		out[m.At], out[m.At+1] = out[m.At+1], out[m.At]
	case api.StrokeTake:
		out = slices.Delete(out, m.At, m.At+2)
	case api.StrokePut:
		out = slices.Insert(out, m.At, m.Stroke, -m.Stroke)
	}
	return out
}

// dice makes benches and lists, the same in each run.
type dice struct{ *rand.Rand }

func newDice(n uint64) dice { return dice{rand.New(rand.NewPCG(n, 2))} }

// bench returns a bench with at most so many lines, of which more or fewer cross.
func (d dice) bench(most int) api.StrokeBench {
	b := api.StrokeBench{Lines: 1 + d.IntN(most)}
	often := 1 + d.IntN(4)
	for _, p := range pairs(b.Lines) {
		if d.IntN(5) < often {
			b.Cross = append(b.Cross, p)
		}
	}
	d.Shuffle(len(b.Cross), func(i, j int) { b.Cross[i], b.Cross[j] = b.Cross[j], b.Cross[i] })
	return b
}

// list returns a list of at most so many strokes, of which one in some is one back.
func (d dice) list(b api.StrokeBench, most, some int) []int {
	out := make([]int, d.IntN(most+1))
	for i := range out {
		out[i] = 1 + d.IntN(b.Lines)
		if d.IntN(some) == 0 {
			out[i] = -out[i]
		}
	}
	return out
}

// wander returns a list after many moves that keep it within most strokes.
func (d dice) wander(b api.StrokeBench, l []int, moves, most int) []int {
	for range moves {
		some := movesOf(b, l)
		m := some[d.IntN(len(some))]
		// Most moves are StrokePut, which would soon fill the list: others are preferred.
		for range 3 * b.Lines {
			if m.Kind != api.StrokePut {
				break
			}
			m = some[d.IntN(len(some))]
		}
		if next := after(l, m); len(next) <= most {
			l = next
		}
	}
	return l
}

// looks calls a function with many benches and lists, short ones and long ones.
func looks(t *testing.T, look func(d dice, b api.StrokeBench, one, two []int)) {
	t.Helper()
	for n := range uint64(300) {
		d := newDice(n)
		b := d.bench(api.MaxStrokeLines)
		most := []int{6, 20, api.MaxStrokeLong}[n%3]
		one, two := d.list(b, most, 2+d.IntN(4)), d.list(b, most, 2+d.IntN(4))
		look(d, b, one, two)
	}
}

func mustShort(t *testing.T, b api.StrokeBench, l []int) []int {
	t.Helper()
	s, e := stroke.Short(b, l)
	if e != api.OK {
		t.Fatal(b, l, e)
	}
	return s
}

func mustWay(t *testing.T, b api.StrokeBench, one, two []int) []int {
	t.Helper()
	w, e := stroke.Way(b, one, two)
	if e != api.OK {
		t.Fatal(b, one, two, e)
	}
	return w
}

func mustCommon(t *testing.T, b api.StrokeBench, one, two []int) []int {
	t.Helper()
	c, e := stroke.Common(b, one, two)
	if e != api.OK {
		t.Fatal(b, one, two, e)
	}
	return c
}

func isSame(t *testing.T, b api.StrokeBench, one, two []int) bool {
	t.Helper()
	e := stroke.Same(b, one, two)
	if e != api.OK && e != api.ErrDraw {
		t.Fatal(b, one, two, e)
	}
	return e == api.OK
}

func equalLists(a, b [][]int) bool { return slices.EqualFunc(a, b, slices.Equal[[]int]) }
