package prefix

import (
	"cmp"
	"iter"
	"slices"

	"shawm/api"
)

// none is the symbol of a package.
const none = -1

// element is a coin of a symbol, or a package of two elements of the row before.
type element struct{ weight, symbol int }

// row has elements in the order of their weights. The zero row has none.
type row struct {
	elements []element
	spend    func(n int) // counts the coins in the first n elements
}

// Lengths returns the lengths, at most most, with which the symbols cost least.
func Lengths(counts []int, most int) ([]int, api.Errno) {
	if len(counts) > maxSymbols || !areWithin(counts, maxCount) || most < 1 || most > maxLength {
		return nil, api.ErrArg
	}
	coins := slices.SortedStableFunc(coinsOf(counts), byWeight)
	n := len(coins)
	if n == 0 {
		return nil, api.ErrNone
	}
	if n > 1<<most {
		return nil, api.ErrFull
	}
	lengths := make([]int, len(counts))
	if n == 1 {
		lengths[coins[0].symbol] = 1
		return lengths, api.OK
	}
	var last row
	for range most {
		last = rowAfter(last, coins, lengths)
	}
	last.spend(2*n - 2)
	return lengths, api.OK
}

// coinsOf gives the coins in the order of the symbols.
func coinsOf(counts []int) iter.Seq[element] {
	return func(yield func(element) bool) {
		for symbol, count := range counts {
			if count > 0 && !yield(element{count, symbol}) {
				return
			}
		}
	}
}

func byWeight(a, b element) int { return cmp.Compare(a.weight, b.weight) }

// rowAfter returns the row behind that one; spending its elements counts coins in lengths.
func rowAfter(before row, coins []element, lengths []int) row {
	elements := merge(coins, packages(before.elements), byWeight)
	spend := func(n int) {
		opened := 0
		for _, x := range elements[:n] {
			if x.symbol == none {
				opened++
			} else {
				lengths[x.symbol]++
			}
		}
		if opened > 0 {
			// Packages stay in their order, so that those opened are of the first elements.
			before.spend(2 * opened)
		}
	}
	return row{elements, spend}
}

// packages are the pairs of elements; a last one without another one is left out.
func packages(elements []element) []element {
	pairs := make([]element, len(elements)/2)
	for i := range pairs {
		pairs[i] = element{elements[2*i].weight + elements[2*i+1].weight, none}
	}
	return pairs
}

// merge returns the elements of two lists that are in order, all in one order: of equal ones those of a come first.
func merge[T any](a, b []T, compare func(x, y T) int) []T {
	merged := make([]T, 0, len(a)+len(b))
	for len(a) > 0 && len(b) > 0 {
		if compare(a[0], b[0]) <= 0 {
			merged, a = append(merged, a[0]), a[1:]
		} else {
			merged, b = append(merged, b[0]), b[1:]
		}
	}
	return append(append(merged, a...), b...)
}
