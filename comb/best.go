package comb

import "oxgall/api"

// choice is a sheet with how many of the rows that can be chosen have the same
// marks. Of rows with the same marks best ones have at most one, as each has
// some mark alone.
type choice struct {
	*sheet
	alike map[marks]int64
}

// choosing returns the choice of all rows that fit.
func (s *sheet) choosing() *choice {
	c := &choice{s, map[marks]int64{}}
	for _, f := range s.fits {
		c.alike[f.marks]++
	}
	return c
}

// leave takes a row out of the choice.
func (c *choice) leave(f fit) {
	c.alike[f.marks]--
	if c.alike[f.marks] == 0 {
		delete(c.alike, f.marks)
	}
}

// left returns the rows whose marks are still in the choice. Which one of those
// with the same marks was left does not matter for how few rows are needed.
func (c *choice) left() []fit {
	var out []fit
	for _, f := range c.fits {
		if _, some := c.alike[f.marks]; some {
			out = append(out, f)
		}
	}
	return out
}

// fewest returns for each set of marks the fewest rows that have them all, nil
// if there are none.
func (c *choice) fewest() [][]api.CombRow {
	left := c.left()
	sets := make([]int, len(left))
	for i, f := range left {
		sets[i] = f.set()
	}
	table := make([][]api.CombRow, 1<<len(c.Marks))
	table[0] = []api.CombRow{}
	for set := range table {
		for i, f := range left {
			// A row that has none of the marks leaves the set as it is, and so is no gain.
			before := table[set&^sets[i]]
			if before == nil || table[set] != nil && len(table[set]) <= len(before)+1 {
				continue
			}
			// Several sets continue the same rows, so their capacity is cut.
			table[set] = append(before[:len(before):len(before)], f.CombRow)
		}
	}
	return table
}

// kind returns the kind of a row that fits, if no mark is lost. It takes the row
// out of the choice.
func (c *choice) kind(f fit) int {
	table := c.fewest()
	all := len(table) - 1
	best := len(table[all])
	if 1+len(table[all&^f.set()]) > best {
		return api.CombNever
	}
	c.leave(f)
	if len(c.fewest()[all]) != best {
		return api.CombAlways
	}
	return api.CombMay
}

// ways returns how many lists of so many rows, in any order, have all marks and
// no marks twice, or MaxNumber + 1 if there are more than MaxNumber.
func (c *choice) ways(rows int) int64 {
	counts := make([][]int64, rows+1) // for each number of rows and each set of marks
	for n := range counts {
		counts[n] = make([]int64, 1<<len(c.Marks))
	}
	counts[0][0] = 1
	for m, alike := range c.alike {
		set := m.set()
		// Downwards, so that no list gets two rows with these marks.
		for n := rows; n > 0; n-- {
			for before, ways := range counts[n-1] {
				sum := counts[n][before|set] + ways*alike
				counts[n][before|set] = min(sum, api.MaxNumber+1)
			}
		}
	}
	return counts[rows][len(counts[rows])-1]
}
