package psycho

import (
	"iter"
	"slices"

	"shawm/api"
	"shawm/bands"
)

// span is where a band is in the order of a division: the elements from, .. , to - 1.
type span struct{ band, from, to int }

func (s span) width() int { return s.to - s.from }

// spans gives all bands of a division, one after the other; of what is no division, none.
func spans(short bool, groups []int) iter.Seq[span] {
	return func(yield func(span) bool) {
		widths, _ := bands.Widths(short, groups)
		from := 0
		for band, width := range widths {
			if !yield(span{band, from, from + width}) {
				return
			}
			from += width
		}
	}
}

// silenced is a spectrum with zeros in all bands that are not heard.
func silenced(c []int, heard []bool, short bool, groups []int) ([]int, api.Errno) {
	list, e := bands.Gather(c, short, groups)
	if e != api.OK {
		return nil, e
	}
	for s := range spans(short, groups) {
		if !heard[s.band] {
			clear(list[s.from:s.to:s.to])
		}
	}
	return bands.Scatter(list, short, groups)
}

func areEnergies(list []int) bool {
	return !slices.ContainsFunc(list, func(v int) bool { return v < 0 || v > mostEnergy })
}
