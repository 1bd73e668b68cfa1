package dct

import "iter"

// transform is the transform of x, by such turns.
func transform(x []int, turn turner) []int {
	size := len(x)
	row := make([]pair, size/2)
	for n, at := range places(size) {
		row[n] = turn(pair{x[at[0]], x[at[1]]}, -(8*n + 1), 16*size)
	}
	mix := mixer(turn)
	c := make([]int, size)
	mixed := mix(row)
	for k, at := range places(size) {
		p := turn(mixed[k], -(8*k + 1), 16*size)
		c[at[0]], c[at[1]] = p[0], -p[1]
	}
	return c
}

// untransform is the list of which c is the transform.
func untransform(c []int) []int {
	size := len(c)
	mixed := make([]pair, size/2)
	for k, at := range places(size) {
		mixed[k] = back(pair{c[at[0]], -c[at[1]]}, -(8*k + 1), 16*size)
	}
	row := unmixed(mixed)
	x := make([]int, size)
	for n, at := range places(size) {
		p := back(row[n], -(8*n + 1), 16*size)
		x[at[0]], x[at[1]] = p[0], p[1]
	}
	return x
}

// places are the pairs of a list of that size, numbered, each as the places of its two numbers: one from the beginning on, one from the end.
func places(size int) iter.Seq2[int, [2]int] {
	return func(yield func(int, [2]int) bool) {
		for n := range size / 2 {
			if !yield(n, [2]int{2 * n, size - 1 - 2*n}) {
				return
			}
		}
	}
}
