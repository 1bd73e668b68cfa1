package scale

import (
	"iter"

	"shawm/api"
)

const (
	mostStep  = api.MaxScale
	steps     = 2*mostStep + 1
	firstBits = 7
	none      = -1 // what stands before the first scale
)

// The lengths of the steps' symbols, as letters: b is 1, c is 2, and so on.
// They are those of the chapter's counts by layer 4, and stand here as scales are written in less time than the lengths are made.
// The steps below 0 come first, then 0, and those above it.
const lengths = "ppppppoooooooooooooooooooooooooooonnnnnnnnnnnnnnnnnnmmmmmmmmmmmmmlllllllllkkkkkkjjjjjiiihhhggfd" +
	"b" +
	"dfgghhhiiijjjjjkkkkkklllllllllmmmmmmmmmmmmmnnnnnnnnnnnnnnnnnnnnoooooooooooooooooooooooooopppppp"

// Lengths returns the lengths of the steps' symbols.
func Lengths() []int {
	costs := stepCosts()
	return costs[:]
}

// stepCosts are the bits of each step, from the least one on.
func stepCosts() [steps]int {
	var costs [steps]int
	for symbol := range costs {
		costs[symbol] = int(lengths[symbol] - 'a')
	}
	return costs
}

// symbolOf is the one of the step between two scales.
func symbolOf(before, scale int) int { return scale - before + mostStep }

// scaleOf is the one to which a symbol's step leads.
func scaleOf(before, symbol int) int { return before + symbol - mostStep }

// prices tells how many bits a scale has behind the one before it.
func prices() func(before, scale int) int {
	costs := stepCosts()
	return func(before, scale int) int {
		if before == none {
			return firstBits
		}
		return costs[symbolOf(before, scale)]
	}
}

// successive gives the scales of the bands that are used, each behind the one before it.
func successive(scales []int, used []bool) iter.Seq2[int, int] {
	return func(yield func(int, int) bool) {
		before := none
		for i, v := range scales {
			if !used[i] {
				continue
			}
			if !yield(before, v) {
				return
			}
			before = v
		}
	}
}
