package quant

import (
	"iter"

	"shawm/api"
	"shawm/fixed"
)

// scale is one of those from 0 to api.MaxScale.
type scale int

// powers are those of the quanta from 0 on that were asked so far; the others are 0, like that of 0 itself.
type powers [api.MaxQuant + 1]int

func (p *powers) of(q int) int {
	if p[q] == 0 {
		p[q] = power(q)
	}
	return p[q]
}

// power has no error to tell, as no quantum's is near to the greatest number that has a cube root.
func power(q int) int {
	root, _ := fixed.Cube(4096 * q * q * q * q)
	return root
}

// ladder has the values of all quanta from 0 on, with one scale.
type ladder struct {
	scale  scale
	step   int
	powers *powers
}

func ladderOf(s scale) ladder { return ladder{powers: &powers{}}.with(s) }

// with is a ladder that keeps its powers, which are the same for all scales.
func (l ladder) with(s scale) ladder {
	l.scale = s
	l.step, _ = fixed.Step(int(s))
	return l
}

// laddersDown gives those of all scales, from the greatest one down.
func laddersDown(yield func(ladder) bool) {
	l := ladderOf(api.MaxScale)
	for s := l.scale; s >= 0; s-- {
		if !yield(l.with(s)) {
			return
		}
	}
}

// value has no error to tell, as the greatest power times the greatest step is far within what is rounded.
func (l ladder) value(q int) int {
	v, _ := fixed.Round(l.powers.of(q)*l.step, 256)
	return min(v, api.MaxCoef)
}

// quantum is that of a coefficient from 0 on.
func (l ladder) quantum(c int) int {
	q := least(0, api.MaxQuant, func(q int) bool { return l.value(q) >= c })
	if q > 0 && c-l.value(q-1) <= l.value(q)-c {
		q--
	}
	return q
}

// losses gives the squares of what coefficients from 0 on lose.
func (l ladder) losses(sizes []int) iter.Seq[int] {
	return func(yield func(int) bool) {
		for _, c := range sizes {
			loss := c - l.value(l.quantum(c))
			if !yield(loss * loss) {
				return
			}
		}
	}
}

// keeps tells whether the noise is at most limit.
func (l ladder) keeps(sizes []int, limit int) bool {
	for loss := range l.losses(sizes) {
		limit -= loss
		if limit < 0 {
			return false
		}
	}
	return true
}

// reaches tells whether a coefficient from 0 on is not above all values.
func (l ladder) reaches(c int) bool { return l.value(api.MaxQuant) >= c }
