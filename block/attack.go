package block

import (
	"iter"
	"slices"

	"shawm/api"
)

const (
	mostSample   = 1 << 16
	partLen      = 16
	partsOfFrame = api.FrameLen / partLen
)

func checkSamples(x []int) api.Errno {
	if len(x)%api.FrameLen != 0 || len(x) > api.MaxSamples {
		return api.ErrArg
	}
	if len(x) > 0 && (slices.Min(x) < -mostSample || slices.Max(x) > mostSample) {
		return api.ErrRange
	}
	return api.OK
}

// parts gives the energies of the parts of x, one after the other.
func parts(x []int) iter.Seq[int] {
	return func(yield func(energy int) bool) {
		last := 0
		for part := range slices.Chunk(x, partLen) {
			energy := 0
			for _, v := range part {
				energy += (v - last) * (v - last)
				last = v
			}
			if !yield(energy) {
				return
			}
		}
	}
}

// attacksIn returns what tells whether an attack is at a part, of parts with these energies.
func attacksIn(energies []int) func(part int) bool {
	return func(part int) bool {
		var recent [4]int
		copy(recent[:], energies[max(part-len(recent), 0):part])
		sum := 0
		for _, energy := range recent {
			sum += energy
		}
		return energies[part] > 8*(sum/len(recent))+65536
	}
}
