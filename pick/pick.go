// Package pick finds the best one of several things, for all layers that look for one.
package pick

import "iter"

// Least returns the first one of the choices that are the least, by compare, which gets each later one with an earlier one. Of no choices it returns the zero value.
func Least[T any](choices iter.Seq[T], compare func(later, earlier T) int) T {
	var least T
	found := false
	for x := range choices {
		if !found || compare(x, least) < 0 {
			least, found = x, true
		}
	}
	return least
}
