package linear

import (
	"iter"
	"slices"

	"shawm/fixed"
)

const (
	fine         = 128     // what stands for 1 in reflection coefficients
	mostLikeness = 1 << 30 // which no likeness reaches
)

// likenesses are the sums of the products of a list's elements with those 0, 1, .. , order places behind them, scaled down together.
func likenesses(x []int, order int) []int {
	all := make([]int, order+1)
	for j := range all {
		all[j] = sum(products(x, x[min(j, len(x)):]))
	}
	h := excess(all[0])
	for j := range all {
		all[j] >>= h
	}
	return all
}

// excess is how often a number has to be halved.
func excess(v int) int {
	h := 0
search:
	for {
		switch {
		case v>>h < mostLikeness:
			break search
		default:
			h++
		}
	}
	return h
}

// filterOf is the filter that is as long as there are likenesses behind the first one.
func filterOf(likenesses []int) []int {
	order := len(likenesses) - 1
	u, v := slices.Clone(likenesses[1:]), slices.Clone(likenesses[:order])
	var filter []int
	for range order {
		k := reflection(u[0], v[0])
		filter = append(filter, k)
		u, v = reflected(u, v, k)
	}
	return filter
}

func reflection(u, v int) int {
	if v <= 0 {
		return 0
	}
	return min(max(round(-fine*u, v), -mostReflection), mostReflection)
}

// reflected are both rows after a step, each with an element less.
func reflected(u, v []int, k int) (nextU, nextV []int) {
	for i := range len(u) - 1 {
		nextU = append(nextU, u[i+1]+round(k*v[i+1], fine))
		nextV = append(nextV, v[i]+round(k*u[i], fine))
	}
	return nextU, nextV
}

// products gives those of the elements at the same places of both lists, as long as both have one.
func products(a, b []int) iter.Seq[int] {
	return func(yield func(int) bool) {
		for i := range min(len(a), len(b)) {
			if !yield(a[i] * b[i]) {
				return
			}
		}
	}
}

func sum[T ~int](numbers iter.Seq[T]) T {
	var total T
	for v := range numbers {
		total += v
	}
	return total
}

// round has no error to tell, as all numbers of this package are within what is rounded, and all divisors above 0.
func round(a, b int) int {
	q, _ := fixed.Round(a, b)
	return q
}
