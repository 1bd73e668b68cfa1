package lap

import (
	"iter"

	"shawm/api"
)

const maxBlocks = 512

func isLayout(layout []int) bool {
	if len(layout) > maxBlocks {
		return false
	}
	for _, length := range layout {
		if length != api.ShortLen && length != api.FrameLen {
			return false
		}
	}
	return true
}

func sum(lengths []int) int {
	all := 0
	for _, length := range lengths {
		all += length
	}
	return all
}

// meetings are the places where two blocks meet, each with the length of its lap.
func meetings(layout []int) iter.Seq2[int, int] {
	return func(yield func(place, length int) bool) {
		place := 0
		for k := 1; k < len(layout); k++ {
			place += layout[k-1]
			if !yield(place, min(layout[k-1], layout[k])) {
				return
			}
		}
	}
}

// changed is a list with each of its blocks replaced by what change makes of it.
func changed[T any](list []T, layout []int, change func(block []T) ([]T, api.Errno)) ([]T, api.Errno) {
	all := make([]T, 0, len(list))
	for _, length := range layout {
		at := len(all)
		block, e := change(list[at : at+length : at+length])
		if e != api.OK {
			return nil, e
		}
		all = append(all, block...)
	}
	return all, api.OK
}
