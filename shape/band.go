package shape

import (
	"iter"
	"slices"

	"shawm/api"
	"shawm/fixed"
	"shawm/quant"
)

// parts gives all bands, one after the other, each with its part of a list.
func parts(list, widths []int) iter.Seq2[int, []int] {
	return func(yield func(int, []int) bool) {
		from := 0
		for band, width := range widths {
			if !yield(band, list[from:from+width]) {
				return
			}
			from += width
		}
	}
}

// listed is what tell says of each band.
func listed[T any](list, widths []int, tell func(band int, part []int) T) []T {
	var all []T
	for band, part := range parts(list, widths) {
		all = append(all, tell(band, part))
	}
	return all
}

// joined is one list of what turn makes of all bands, each with its scale. It has no error to tell, as the parts of what was checked are as they have to be; nor have the functions below.
func joined(list, widths, scales []int, turn func(part []int, scale int) ([]int, api.Errno)) []int {
	return slices.Concat(listed(list, widths, func(band int, part []int) []int {
		turned, _ := turn(part, scales[band])
		return turned
	})...)
}

func noisesOf(c, widths, scales []int) []int {
	return listed(c, widths, func(band int, part []int) int {
		noise, _ := quant.Noise(part, scales[band])
		return noise
	})
}

func leastOf(part []int) int {
	scale, _ := quant.Least(part)
	return scale
}

func scaleOf(part []int, limit int) int {
	scale, e := quant.Most(part, limit)
	if e == api.ErrNone {
		return leastOf(part)
	}
	return scale
}

// excesses keep by how much noises are above limits, in logarithms, for each pair that was asked: many bands have the same, as those without noise.
type excesses map[[2]int]int

func (x excesses) of(noise, limit int) int {
	pair := [2]int{noise, limit}
	excess, known := x[pair]
	if !known {
		excess = logOf(noise) - logOf(limit)
		x[pair] = excess
	}
	return excess
}

func logOf(v int) int {
	log, _ := fixed.Log(v + 1)
	return log
}
