package dct

import "shawm/lift"

// pair is two numbers that are turned against each other.
type pair [2]int

// turner turns a pair by n / d of a full turn.
type turner func(p pair, n, d int) pair

// forth and back have no error to tell: the root of the sum of all squares hardly changes on the way, so that the numbers stay below 2^24 forth, and below 2^29 back.
func forth(p pair, n, d int) pair {
	x, y, _ := lift.Turn(p[0], p[1], n, d)
	return pair{x, y}
}

func back(p pair, n, d int) pair {
	x, y, _ := lift.Back(p[0], p[1], n, d)
	return pair{x, y}
}

// tally is a number of turns.
type tally int

// count is a turner that leaves each pair as it is.
func (t *tally) count(p pair, n, d int) pair {
	*t++
	return p
}
