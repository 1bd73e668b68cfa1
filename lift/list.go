package lift

import (
	"slices"

	"shawm/api"
)

const (
	maxPlaces = 1024 // the longest list that is turned
	maxTurns  = 4096
)

// step is a turn of the elements at two places of a list.
type step struct {
	turn
	i, j int
}

// Apply returns x after all turns of l, one after the other.
func Apply(x []int, l []api.Turn) ([]int, api.Errno) {
	steps, e := stepsOf(x, l, 1<<20)
	if e != api.OK {
		return nil, e
	}
	y := slices.Clone(x)
	for _, s := range slices.All(steps) {
		s.move(y, s.forth)
	}
	return y, api.OK
}

// Undo returns x after all turns of l were turned back, the last one first.
func Undo(x []int, l []api.Turn) ([]int, api.Errno) {
	steps, e := stepsOf(x, l, 1<<30)
	if e != api.OK {
		return nil, e
	}
	y := slices.Clone(x)
	for _, s := range slices.Backward(steps) {
		s.move(y, s.back)
	}
	return y, api.OK
}

// move puts what way makes of two elements in their place.
func (s step) move(x []int, way func(pair) pair) {
	p := way(pair{x[s.i], x[s.j]})
	x[s.i], x[s.j] = p[0], p[1]
}

// stepsOf are the turns of l as steps on x, whose elements are from -most to most.
func stepsOf(x []int, l []api.Turn, most int) ([]step, api.Errno) {
	if len(x) > maxPlaces || len(l) > maxTurns {
		return nil, api.ErrFull
	}
	if !areWithin(most, x...) {
		return nil, api.ErrRange
	}
	steps := make([]step, len(l))
	for i, t := range l {
		if !isPlace(x, t.I) || !isPlace(x, t.J) || t.I == t.J {
			return nil, api.ErrArg
		}
		by, e := turnBy(t.N, t.D)
		if e != api.OK {
			return nil, e
		}
		steps[i] = step{by, t.I, t.J}
	}
	return steps, api.OK
}

func isPlace(x []int, i int) bool { return i >= 0 && i < len(x) }
