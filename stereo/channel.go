package stereo

import (
	"iter"
	"slices"

	"shawm/api"
)

// channels are two channels, pair by pair, and the widths of their bands.
type channels struct {
	pairs  []pair
	widths []int
}

// channelsOf are two channels whose elements are from -most to most.
func channelsOf(l, r, widths []int, most int) (channels, api.Errno) {
	if !areWidths(widths) {
		return channels{}, api.ErrArg
	}
	if len(l) != api.FrameLen || len(r) != api.FrameLen {
		return channels{}, api.ErrForm
	}
	if !areWithin(l, most) || !areWithin(r, most) {
		return channels{}, api.ErrRange
	}
	c := channels{widths: widths}
	for i := range l {
		c.pairs = append(c.pairs, pair{l[i], r[i]})
	}
	return c, api.OK
}

// coupling are two channels together with a choice of their bands.
func coupling(l, r, widths []int, mid []bool, most int) (channels, api.Errno) {
	if areWidths(widths) && len(mid) != len(widths) {
		return channels{}, api.ErrForm
	}
	return channelsOf(l, r, widths, most)
}

func areWidths(widths []int) bool {
	if len(widths) > mostBands {
		return false
	}
	left := api.FrameLen
	for _, width := range widths {
		if width < 1 || width > left {
			return false
		}
		left -= width
	}
	return left == 0
}

func areWithin(list []int, most int) bool {
	return !slices.ContainsFunc(list, func(v int) bool { return v < -most || v > most })
}

// ends are where a band is: the elements from, .. , to - 1.
type ends struct{ from, to int }

// bands gives all bands, one after the other, with their ends.
func (c channels) bands() iter.Seq2[int, ends] {
	return func(yield func(int, ends) bool) {
		from := 0
		for band, width := range c.widths {
			if !yield(band, ends{from, from + width}) {
				return
			}
			from += width
		}
	}
}

// told is what tell says of the pairs of each band.
func (c channels) told(tell func(pairs []pair) int) []int {
	var all []int
	for _, at := range c.bands() {
		all = append(all, tell(c.pairs[at.from:at.to]))
	}
	return all
}

// turned are the two lists of what change makes of all pairs.
func (c channels) turned(change func(band int, p pair) pair) (a, b []int) {
	for band, at := range c.bands() {
		for _, p := range c.pairs[at.from:at.to] {
			p = change(band, p)
			a, b = append(a, p.first), append(b, p.second)
		}
	}
	return a, b
}

// choice returns what turns the pairs of the bands that are mid, and no others.
func choice(mid []bool, turn func(pair) pair) func(band int, p pair) pair {
	return func(band int, p pair) pair {
		if mid[band] {
			return turn(p)
		}
		return p
	}
}
