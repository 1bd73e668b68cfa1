package fixed

import "shawm/api"

// Root returns the greatest integer whose square is at most n.
func Root(n int) (int, api.Errno) {
	if !hasRoot(n) {
		return 0, api.ErrRange
	}
	return root(n), api.OK
}

// Cube returns the greatest integer whose cube is at most n.
func Cube(n int) (int, api.Errno) {
	if !hasRoot(n) {
		return 0, api.ErrRange
	}
	// The search tries cubes of up to 2^63, which int does not have.
	x := greatest(0, 1<<21, func(x uint64) bool { return x*x*x <= uint64(n) })
	return int(x), api.OK
}

func hasRoot(n int) bool { return n >= 0 && n <= 1<<62 }

func root(n int) int {
	return greatest(0, 1<<31, func(x int) bool { return x*x <= n })
}

// greatest returns the greatest number from low to high that fits, where low fits, and with each number all those below it do.
func greatest[T int | uint64](low, high T, fits func(T) bool) T {
	for low < high {
		middle := high - (high-low)/2
		if fits(middle) {
			low = middle
		} else {
			high = middle - 1
		}
	}
	return low
}
