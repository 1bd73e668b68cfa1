package scale

import (
	"cmp"
	"iter"

	"shawm/api"
	"shawm/pick"
)

// bounds are the least and the greatest scale that a band may have.
type bounds struct{ low, high int }

// clipped are the bounds that are nearest, and scales.
func (b bounds) clipped() bounds {
	return bounds{min(max(b.low, 0), api.MaxScale), min(max(b.high, 0), api.MaxScale)}
}

func (b bounds) areEmpty() bool { return b.low > b.high }

// scales gives those from low to high.
func (b bounds) scales(yield func(int) bool) {
	for v := b.low; v <= b.high; v++ {
		if !yield(v) {
			return
		}
	}
}

// way is a scale, and what it costs together with the best ones behind it.
type way struct{ scale, cost int }

// row has for each scale the best way to go on behind it.
type row [api.MaxScale + 1]way

// best are the scales that cost least of all within the bounds, the lexicographically smallest ones of several, and their cost.
func best(all []bounds) ([]int, int) {
	if len(all) == 0 {
		return nil, 0
	}
	price := prices()
	rows := make([]row, len(all)) // of the last band there is nothing behind
	for i := len(all) - 1; i > 0; i-- {
		for v := range all[i-1].scales {
			rows[i-1][v] = pick.Least(all[i].ways(v, price, rows[i]), byCost)
		}
	}
	first := pick.Least(all[0].ways(none, price, rows[0]), byCost)
	chosen := []int{first.scale}
	for i := range all[1:] {
		chosen = append(chosen, rows[i][chosen[i]].scale)
	}
	return chosen, first.cost
}

// ways gives the ways to go on behind a scale: the least one of a band first.
func (b bounds) ways(before int, price func(before, scale int) int, behind row) iter.Seq[way] {
	return func(yield func(way) bool) {
		for v := range b.scales {
			if !yield(way{v, price(before, v) + behind[v].cost}) {
				return
			}
		}
	}
}

func byCost(a, b way) int { return cmp.Compare(a.cost, b.cost) }
