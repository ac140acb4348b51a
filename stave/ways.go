package stave

import "cantus/api"

// way is how the boxes behind a place are broken best, if they can be: where the first line ends, and of all lines how many they are and what they cost.
type way struct {
	exists           bool
	cost, lines, end int
}

// bestWays has the best way on from each place, the one behind all boxes too: it goes from there to the first one, since what the lines ahead of a place are says nothing about which lines are best behind it.
func bestWays(l []api.Box, wide int) []way {
	ways := make([]way, len(l)+1)
	ways[len(l)] = way{exists: true, end: len(l)}
	for at := len(l) - 1; at >= 0; at-- {
		ways[at] = bestFrom(l, wide, at, ways)
	}
	return ways
}

// bestFrom needs the best ways on from all places behind at.
func bestFrom(l []api.Box, wide, at int, ways []way) way {
	var best way
	var first line
	for i := at; i < len(l); i++ {
		first = first.with(l[i])
		// No box gives more than it has: with more boxes no line fits that did not fit ahead of them.
		if !first.fits(wide) {
			break
		}
		behind := ways[i+1]
		if !behind.exists {
			continue
		}
		found := way{true, first.costs(wide, i+1 == len(l)) + behind.cost, 1 + behind.lines, i + 1}
		if !best.beats(found) {
			best = found
		}
	}
	return best
}

// beats is whether w is better than one whose first line is longer: of ways that are as good the longer one is wanted.
func (w way) beats(longer way) bool {
	switch {
	case !w.exists:
		return false
	case w.cost != longer.cost:
		return w.cost < longer.cost
	}
	return w.lines < longer.lines
}
