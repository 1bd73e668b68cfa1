package lap

import "shawm/api"

// turner turns the pair (x, y) by n / d of a full turn.
type turner func(x, y, n, d int) (int, int, api.Errno)

// lapped turns the samples of x against each other at all places where two blocks meet.
func lapped(x, layout []int, turn turner) {
	for place, length := range meetings(layout) {
		lap := lapAt(place, length)
		lap(x, turn)
	}
}

// lapAt returns the lap at a place. The turns have no error to tell: what comes here is far below the greatest number that they take, and each sample is turned once.
func lapAt(place, length int) func(x []int, turn turner) {
	return func(x []int, turn turner) {
		for i := range length / 2 {
			left, right := place-1-i, place+i
			a, b, _ := turn(x[left], x[right], length-2*i-1, 8*length)
			x[left], x[right] = a, b
		}
	}
}
