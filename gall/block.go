package gall

import (
	"slices"

	"oxgall/api"
	"oxgall/lists"
)

// bounds returns the bounds of all colours.
func (l *list) bounds() []api.Range {
	los := l.before.pushed(len(l.Colours), func(colour int) int64 { return l.windows[colour].Lo })
	// With all places counted from the other side on, below 0, a Hi is found as a Lo is.
	his := l.before.turned().pushed(len(l.Colours), func(colour int) int64 { return -l.windows[colour].Hi })
	bounds := make([]api.Range, len(l.Colours))
	for colour := range bounds {
		bounds[colour] = api.Range{Lo: los[colour], Hi: -his[colour]}
	}
	return bounds
}

// isWithin tells whether bounds are within a block.
func isWithin(b api.GallBlock, bounds api.Range) bool {
	return b.From <= bounds.Lo && bounds.Hi <= b.To
}

// isTooSmall tells whether a block has more colours than places.
func isTooSmall(b api.GallBlock) bool { return int64(len(b.Colours)) > max(b.To-b.From+1, 0) }

// ends returns the ends that are meant of some ranges, increasing.
func ends(ranges []api.Range, meant func(api.Range) int64) []int64 {
	var out []int64
	for _, r := range ranges {
		out = append(out, meant(r))
	}
	slices.Sort(out)
	return out
}

// block returns the first right block, or one without colours if there is none.
func (l *list) block() api.GallBlock {
	bounds := l.bounds()
	los := ends(bounds, func(r api.Range) int64 { return r.Lo })
	his := ends(bounds, func(r api.Range) int64 { return r.Hi })
	marks := make([]bool, len(bounds))
	var found api.GallBlock
search:
	for _, from := range los {
		for _, to := range his {
			b := api.GallBlock{From: from, To: to}
			clear(marks)
			for colour, r := range bounds {
				if isWithin(b, r) {
					marks[colour] = true
				}
			}
			b.Colours = lists.Marked(marks)
			if isTooSmall(b) {
				found = b
				break search
			}
		}
	}
	return found
}

// isPossible tells whether there is a right order. Without a right block there is
// one: at each place the colour whose bounds end first of those whose bounds have
// begun. It comes behind all that come before it, as their bounds begin and end
// earlier. (P5.10)
func (l *list) isPossible() bool { return len(l.block().Colours) == 0 }
