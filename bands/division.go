package bands

import (
	"iter"

	"shawm/api"
)

// The widths of the bands of a long frame, and of a short block.
var (
	longWidths  = [...]int{4, 4, 4, 4, 4, 4, 4, 8, 8, 8, 12, 12, 16, 16, 20}
	shortWidths = [...]int{2, 2, 4, 8}
)

// division is groups of blocks, each of one length, with bands of the same widths. A long frame is one block.
type division struct {
	length int
	widths []int
	groups []int
}

func divisionOf(short bool, groups []int) (division, api.Errno) {
	switch {
	case short && areGroups(groups):
		widths := shortWidths
		return division{api.ShortLen, widths[:], groups}, api.OK
	case !short && len(groups) == 0:
		widths := longWidths
		return division{api.FrameLen, widths[:], []int{1}}, api.OK
	}
	return division{}, api.ErrArg
}

func areGroups(groups []int) bool {
	left := api.Shorts
	for _, blocks := range groups {
		if blocks < 1 || blocks > left {
			return false
		}
		left -= blocks
	}
	return left == 0
}

func (d division) count() int { return len(d.groups) * len(d.widths) }

func (d division) has(band int) bool { return band >= 0 && band < d.count() }

// bandWidths are the widths of all bands, which the blocks of a group have together.
func (d division) bandWidths() []int {
	var all []int
	for _, blocks := range d.groups {
		for _, width := range d.widths {
			all = append(all, blocks*width)
		}
	}
	return all
}

// pieces gives the order: where each band of each block is in the spectrum.
func (d division) pieces() iter.Seq[span] {
	return func(yield func(span) bool) {
		first := 0
		for _, blocks := range d.groups {
			for _, s := range spans(d.widths) {
				for k := range blocks {
					start := d.length * (first + k)
					if !yield(span{start + s.from, start + s.to}) {
						return
					}
				}
			}
			first += blocks
		}
	}
}
