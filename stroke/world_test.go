package stroke_test

import (
	"slices"
	"testing"

	"oxgall/api"
	"oxgall/stroke"
)

// world is all lists of a bench with at most so many strokes, in the order of
// their lengths and then in lexicographic order, in classes that moves join.
// So the first list of a class is the short form of its pattern. It knows
// nothing of the package but the definitions.
type world struct {
	b     api.StrokeBench
	lists [][]int
	at    map[string]int
	class []int // for each list the index of the first one of its class
}

func key(l []int) string {
	out := make([]byte, len(l))
	for i, s := range l {
		out[i] = byte(s + 100)
	}
	return string(out)
}

func newWorld(b api.StrokeBench, most int) *world {
	w := &world{b: b, lists: [][]int{nil}, at: map[string]int{}}
	for from := 0; len(w.lists[len(w.lists)-1]) < most; {
		to := len(w.lists)
		for _, l := range w.lists[from:to] {
			for k := range b.Lines {
				w.lists = append(w.lists, append(slices.Clone(l), k+1), append(slices.Clone(l), -1-k))
			}
		}
		from = to
	}
	for i, l := range w.lists {
		w.at[key(l)] = i
		w.class = append(w.class, i)
	}
	for i, l := range w.lists {
		for at := range len(l) - 1 {
			if free(b, l[at], l[at+1]) {
				w.join(i, w.at[key(after(l, swap(at)))])
			}
			if l[at] == -l[at+1] {
				w.join(i, w.at[key(after(l, take(at)))])
			}
		}
	}
	for i := range w.class {
		w.class[i] = w.root(i)
	}
	return w
}

func (w *world) root(i int) int {
	for w.class[i] != i {
		w.class[i] = w.class[w.class[i]]
		i = w.class[i]
	}
	return i
}

func (w *world) join(i, j int) {
	i, j = w.root(i), w.root(j)
	w.class[max(i, j)] = min(i, j)
}

// of returns the class of a list.
func (w *world) of(l []int) int { return w.class[w.at[key(l)]] }

// shortest returns for each class all its shortest lists, in their order.
func (w *world) shortest() map[int][][]int {
	out := map[int][][]int{}
	for i, c := range w.class {
		if len(w.lists[i]) == len(w.lists[c]) {
			out[c] = append(out[c], w.lists[i])
		}
	}
	return out
}

// worlds calls a function with worlds of several benches.
func worlds(t *testing.T, look func(w *world)) {
	t.Helper()
	for _, b := range benches(3) {
		look(newWorld(b, 4))
	}
	look(newWorld(lines(3, 0, 2), 5))
	look(newWorld(lines(3, 0, 1, 1, 2), 5))
	look(newWorld(lines(2), 6))
	look(newWorld(lines(2, 0, 1), 6))
	look(newWorld(lines(1), 10))
	look(newWorld(chapterB(), 4))
	look(newWorld(lines(4, 0, 2, 0, 3, 1, 3), 4))
	look(newWorld(lines(4, 0, 1, 1, 2, 2, 3, 0, 3), 4))
	look(newWorld(lines(4, 0, 3), 4))
}

// P2.2, P2.3 and P2.10: lists have the short form that moves lead to, and are
// the same just if they have the same one.
func TestShortInWorld(t *testing.T) {
	worlds(t, func(w *world) {
		d := newDice(1)
		for i, l := range w.lists {
			want := w.lists[w.class[i]]
			if s := mustShort(t, w.b, l); !slices.Equal(s, want) {
				t.Fatal(w.b, l, s, want)
			}
			// one list in all, and one that is the same pattern, or its neighbour
			for _, j := range []int{d.IntN(len(w.lists)), w.class[i], max(w.class[i]-1, 0)} {
				if isSame(t, w.b, l, w.lists[j]) != (w.class[i] == w.class[j]) {
					t.Fatal(w.b, l, w.lists[j])
				}
			}
		}
	})
}

// P2.5 and P2.8: first strokes and numbers of shortest lists.
func TestFirstsAndCountInWorld(t *testing.T) {
	worlds(t, func(w *world) {
		for c, all := range w.shortest() {
			var firsts []int
			for _, l := range all {
				if len(l) > 0 {
					firsts = append(firsts, l[0])
				}
			}
			slices.SortFunc(firsts, order)
			firsts = slices.Compact(firsts)
			if f, e := stroke.Firsts(w.b, w.lists[c]); e != api.OK || !slices.Equal(f, firsts) {
				t.Fatal(w.b, w.lists[c], f, e, firsts)
			}
			if n, e := stroke.Count(w.b, w.lists[c]); e != api.OK || n != int64(len(all)) {
				t.Fatal(w.b, w.lists[c], n, e, len(all))
			}
		}
	})
}

// cuts returns all ways to cut a list into rounds in which each two strokes can be exchanged.
func cuts(b api.StrokeBench, l []int) [][][]int {
	if len(l) == 0 {
		return [][][]int{nil}
	}
	var out [][][]int
	for n := 1; n <= len(l); n++ {
		if slices.ContainsFunc(l[:n-1], func(s int) bool { return !free(b, s, l[n-1]) }) {
			break
		}
		round := slices.Clone(l[:n])
		slices.SortFunc(round, order)
		for _, rest := range cuts(b, l[n:]) {
			out = append(out, append([][]int{round}, rest...))
		}
	}
	return out
}

// late returns the sum of the numbers of the rounds of all strokes.
func late(rounds [][]int) int {
	sum := 0
	for i, r := range rounds {
		sum += i * len(r)
	}
	return sum
}

// P2.6 and P2.7: of all rounds of all shortest lists those are the fewest, and
// the earliest, and a spine has as many indexes.
func TestRoundsInWorld(t *testing.T) {
	worlds(t, func(w *world) {
		for c, all := range w.shortest() {
			var best [][]int
			some := false
			for _, l := range all {
				for _, r := range cuts(w.b, l) {
					if !some || len(r) < len(best) || len(r) == len(best) && late(r) < late(best) {
						best, some = r, true
					}
				}
			}
			short := w.lists[c]
			if r, e := stroke.Rounds(w.b, short); e != api.OK || !equalLists(r, best) {
				t.Fatal(w.b, short, r, e, best)
			}
			checkSpines(t, w.b, short, len(best))
		}
	})
}

// checkSpines checks that a short form's spine has so many indexes, no other
// list of indexes that is one has more, and just those are accepted.
func checkSpines(t *testing.T, b api.StrokeBench, short []int, rounds int) {
	t.Helper()
	s, e := stroke.Spine(b, short)
	if n, f := stroke.CheckSpine(b, short, s); e != api.OK || f != api.OK || n != rounds {
		t.Fatal(b, short, s, e, n, f, rounds)
	}
	for set := range 1 << len(short) {
		var spine []int
		right := true
		for i := range short {
			if set>>i&1 == 0 {
				continue
			}
			if n := len(spine); n > 0 && free(b, short[spine[n-1]], short[i]) {
				right = false
			}
			spine = append(spine, i)
		}
		n, e := stroke.CheckSpine(b, short, spine)
		if right && (e != api.OK || n != len(spine) || n > rounds) || !right && (e != api.ErrRule || n != 0) {
			t.Fatal(b, short, spine, n, e)
		}
	}
}

// P2.9: the way is the short form of what leads from one pattern to another
// one, and each beginning of both is one of what is common.
func TestWayAndCommonInWorld(t *testing.T) {
	worlds(t, func(w *world) {
		most := len(w.lists[len(w.lists)-1]) / 2
		shortest := w.shortest()
		begins := map[int]map[int]bool{} // the classes of all beginnings of a class
		var few []int
		for c := range w.lists {
			if len(w.lists[c]) > most || shortest[c] == nil {
				continue
			}
			few = append(few, c)
			begins[c] = map[int]bool{}
			for _, l := range shortest[c] {
				for n := range len(l) + 1 {
					begins[c][w.of(l[:n])] = true
				}
			}
		}
		for _, one := range few {
			for _, two := range few {
				checkPair(t, w, one, two, begins)
			}
		}
	})
}

func checkPair(t *testing.T, w *world, one, two int, begins map[int]map[int]bool) {
	t.Helper()
	a, b := w.lists[one], w.lists[two]
	if way := mustWay(t, w.b, a, b); !slices.Equal(way, w.lists[w.of(joined(turned(a), b))]) {
		t.Fatal(w.b, a, b, way)
	}
	common := mustCommon(t, w.b, a, b)
	c := w.of(common)
	if !slices.Equal(common, w.lists[c]) || !begins[one][c] || !begins[two][c] {
		t.Fatal(w.b, a, b, common)
	}
	for begin := range begins[one] {
		if begins[two][begin] && !begins[c][begin] {
			t.Fatal(w.b, a, b, common, w.lists[begin])
		}
	}
}
