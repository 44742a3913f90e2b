package press

import (
	"slices"

	"oxgall/api"
	"oxgall/lists"
)

// minutes is how many minutes something takes for each set of sheets.
type minutes [1 << api.MaxPressSheets]int64

// sums is how long the sheets of each set are on the bath, and in the press, and
// when a best order ends if they are all sheets of a day.
type sums struct {
	draws, presses, soonest minutes
}

// day is a valid day with its sums.
type day struct {
	sums
	sheets []api.PressSheet
}

// opened returns a day with its sums, if it is valid.
func opened(l []api.PressSheet) (*day, api.Errno) {
	if e := CheckDay(l); e != api.OK {
		return nil, e
	}
	d := &day{sheets: l}
	d.draws, d.presses = d.summed(d.draw), d.summed(d.press)
	for some := lists.Set(1); some <= d.all(); some++ {
		d.soonest[some] = d.soonestOf(some)
	}
	return d, api.OK
}

func (d *day) isSheet(sheet int) bool { return 0 <= sheet && sheet < len(d.sheets) }

// all returns the set of all sheets.
func (d *day) all() lists.Set { return lists.All(len(d.sheets)) }

// end returns when a best order ends.
func (d *day) end() int64 { return d.soonest[d.all()] }

// draw and press are the works of which a bath, or a press, does one at a time.
func (d *day) draw(sheet int) int64  { return d.sheets[sheet].Draw }
func (d *day) press(sheet int) int64 { return d.sheets[sheet].Press }

// summed returns how long a work takes for all sheets of each set.
func (d *day) summed(work func(sheet int) int64) minutes {
	var sum minutes
	for some := range d.all() + 1 {
		for sheet := range some.Indexes() {
			sum[some] += work(sheet)
		}
	}
	return sum
}

// soonestOf returns when a best order of some sheets ends, if it is known for all
// sets with one less. The first sheet makes the row through it as long as it is,
// whatever comes behind it, and lets the others begin when it leaves the bath.
func (d *day) soonestOf(some lists.Set) int64 {
	ends := make([]int64, 0, api.MaxPressSheets)
	for first := range some.Indexes() {
		row := d.sheets[first].Dry + d.presses[some]
		ends = append(ends, d.draw(first)+max(row, d.soonest[some.Without(first)]))
	}
	return slices.Min(ends)
}

// counting returns which work counts of all sheets of a bound, and which works
// count of one of them.
func (d *day) counting(front bool) (each, once func(sheet int) int64) {
	if front {
		return d.press, func(sheet int) int64 { return d.draw(sheet) + d.sheets[sheet].Dry }
	}
	return d.draw, func(sheet int) int64 { return d.sheets[sheet].Dry + d.press(sheet) }
}

// minute returns the minute of a valid bound.
func (d *day) minute(b api.PressBound) int64 {
	each, once := d.counting(b.Front)
	var sum int64
	var least []int64
	for sheet := range d.sheets {
		if slices.Contains(b.Sheets, sheet) {
			sum += each(sheet)
			least = append(least, once(sheet))
		} else {
			sum += min(d.draw(sheet), d.press(sheet))
		}
	}
	return sum + slices.Min(least)
}

// bound returns a bound whose minute is when a best order ends. Of all bounds with
// the same least sum the one with all sheets whose sum is not less has the greatest
// minute, so only such ones are looked at. One of them is found: it is a best order
// to do first the sheets with Draw below Press, increasing by Draw and Dry, and then
// the others, decreasing by Dry and Press, and the row through its critical sheet is
// the minute of a bound with this one, and those of its kind behind it, or before it.
func (d *day) bound() api.PressBound {
	var found api.PressBound
	marks := make([]bool, len(d.sheets))
search:
	for _, front := range []bool{true, false} {
		_, once := d.counting(front)
		for least := range d.sheets {
			clear(marks)
			for sheet := range d.sheets {
				if once(sheet) >= once(least) {
					marks[sheet] = true
				}
			}
			b := api.PressBound{Sheets: lists.Marked(marks), Front: front}
			if d.minute(b) == d.end() {
				found = b
				break search
			}
		}
	}
	return found
}
