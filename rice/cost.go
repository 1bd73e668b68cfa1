package rice

import "iter"

// costs are how many bits the words of a list have with each parameter.
type costs [maxParameter + 1]int

func costsOf(l []int) costs {
	var c costs
	for _, v := range l {
		u := fold(v)
		for k := range c {
			c[k] += wordOf(u, k).bits()
		}
	}
	return c
}

// best is the parameter that costs least.
func (c costs) best() int {
	return least(parameters, func(k int) int { return c[k] })
}

// parameters gives all parameters, from 0 on.
func parameters(yield func(int) bool) {
	for k := range maxParameter + 1 {
		if !yield(k) {
			return
		}
	}
}

// least returns the first one of the choices that cost least. There has to be one.
func least[T any](choices iter.Seq[T], cost func(T) int) T {
	var best T
	found := false
	for x := range choices {
		if !found || cost(x) < cost(best) {
			best, found = x, true
		}
	}
	return best
}
