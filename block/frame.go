package block

import "shawm/api"

// The sides of a frame on which short ones are.
const (
	before = 1 << iota
	after
)

// kindsOf are the kinds of frames, of which those are short that have the value short.
func kindsOf[T comparable](frames []T, short T) []int {
	isShort := func(i int) bool { return i >= 0 && i < len(frames) && frames[i] == short }
	kinds := make([]int, len(frames))
	for i := range frames {
		sides := 0
		if isShort(i - 1) {
			sides |= before
		}
		if isShort(i + 1) {
			sides |= after
		}
		kinds[i] = kindOf(isShort(i), sides)
	}
	return kinds
}

// kindOf is the kind of a frame that has short ones on these sides.
func kindOf(isShort bool, sides int) int {
	if isShort {
		return api.Short
	}
	kinds := [...]int{0: api.Long, before: api.Stop, after: api.Start, before | after: api.Alone}
	return kinds[sides]
}

// lapsOf returns what tells how long the lap ahead of a frame is: 0, if it has no frame before it, or stands behind the last one.
func lapsOf(flags []bool) func(frame int) int {
	return func(frame int) int {
		switch {
		case frame <= 0 || frame >= len(flags):
			return 0
		case flags[frame-1] || flags[frame]:
			return api.ShortLen
		}
		return api.FrameLen
	}
}
