package energy

import (
	"iter"

	"shawm/fixed"
)

// What a level loses from one band of a row to the next one.
const (
	lossUp   = 384
	lossDown = 768
)

const (
	toneUnit = 8 // of the difference of two levels
	mostTone = 255
)

func square(v int) int { return v * v }

func energyOf(coefficients []int) int { return sum(coefficients, square) }

// levelOf has no error to tell, as no energy is below 0 or near to the greatest number that has a logarithm.
func levelOf(energy int) int {
	level, _ := fixed.Log(energy + 1)
	return level
}

// toneOf compares the level of the mean energy of a band's coefficients with the mean of their levels.
func toneOf(coefficients []int) int {
	mean := func(value func(coefficient int) int) int {
		return sum(coefficients, value) / len(coefficients)
	}
	level := levelOf(mean(square))
	levels := mean(func(c int) int { return levelOf(square(c)) })
	return min(greatest(0, (level-levels)/toneUnit), mostTone)
}

// step leads from a band of a row to one beside it, on which a level loses so much.
type step struct{ from, to, loss int }

// steps gives those up a row of n bands, one after the other, and then those down it.
func steps(n int) iter.Seq[step] {
	return func(yield func(step) bool) {
		for i := 1; i < n; i++ {
			if !yield(step{i - 1, i, lossUp}) {
				return
			}
		}
		for i := n - 1; i > 0; i-- {
			if !yield(step{i, i - 1, lossDown}) {
				return
			}
		}
	}
}

// spread carries each level of a row as far as it reaches. What comes up the row does not get back to where it was, as it loses on both ways, so the way down may begin with it.
func spread(row []int) {
	for s := range steps(len(row)) {
		row[s.to] = greatest(0, row[s.to], row[s.from]-s.loss)
	}
}

func greatest(first int, others ...int) int {
	for _, v := range others {
		first = max(first, v)
	}
	return first
}
