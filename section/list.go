package section

import (
	"iter"
	"math/bits"

	"shawm/api"
)

const bookBits = 3

// headBits is how many bits a section has ahead of its values.
func headBits(bands int) int { return bookBits + 2*bits.Len(uint(bands)) - 1 }

// partsOf are the values of each band.
func partsOf(widths, l []int) [][]int {
	parts := make([][]int, len(widths))
	for i, width := range widths {
		parts[i], l = l[:width:width], l[width:]
	}
	return parts
}

// divided gives sections that have all bands together, each with what its bands have.
func divided[T any](bands []T, s []api.Section) iter.Seq2[api.Section, []T] {
	return func(yield func(api.Section, []T) bool) {
		at := 0
		for _, x := range s {
			if !yield(x, bands[at:at+x.Bands:at+x.Bands]) {
				return
			}
			at += x.Bands
		}
	}
}

// runs gives the sections of bands that have these books.
func runs(books []int) iter.Seq[api.Section] {
	return func(yield func(api.Section) bool) {
		for at := 0; at < len(books); {
			x := api.Section{Book: books[at]}
			for at < len(books) && books[at] == x.Book {
				x.Bands++
				at++
			}
			if !yield(x) {
				return
			}
		}
	}
}

// joined is several lists, one after the other.
func joined(lists ...[]int) []int {
	var all []int
	for _, l := range lists {
		all = append(all, l...)
	}
	return all
}
