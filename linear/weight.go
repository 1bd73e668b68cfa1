package linear

import (
	"slices"

	"shawm/api"
)

const unit = 4096 // what stands for 1 in weights

// weightsOf are the weights of a filter.
func weightsOf(filter []int) []int {
	var weights []int
	step := func(k int) {
		before := slices.Clone(weights)
		slices.Reverse(before)
		for i, a := range before {
			weights[i] += round(k*a, fine)
		}
		weights = append(weights, unit/fine*k)
	}
	for _, k := range filter {
		step(k)
	}
	return weights
}

// predictor has the weights of a filter, and the elements that were seen, the last one first; before them all were 0.
type predictor struct {
	weights []int
	seen    [api.MaxOrder]int
}

func (p *predictor) prediction() int {
	return round(-sum(products(p.weights, p.seen[:])), unit)
}

func (p *predictor) see(v int) {
	copy(p.seen[1:], p.seen[:])
	p.seen[0] = v
}
