package rice

import (
	"cmp"

	"shawm/pick"
)

// costs are how many bits the words of a list have with each parameter.
type costs [maxParameter + 1]int

func costsOf(l []int) costs {
	var c costs
	for _, v := range l {
		u := fold(v)
		for k := range c {
			c[k] += wordOf(u, k).bits()
		}
	}
	return c
}

// best is the parameter that costs least.
func (c costs) best() int {
	return pick.Least(parameters, func(a, b int) int { return cmp.Compare(c[a], c[b]) })
}

// parameters gives all parameters, from 0 on.
func parameters(yield func(int) bool) {
	for k := range maxParameter + 1 {
		if !yield(k) {
			return
		}
	}
}
