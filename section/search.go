package section

import (
	"cmp"
	"iter"

	"shawm/api"
	"shawm/book"
	"shawm/pick"
)

const never = 1 << 40 // the cost of values with a book that they do not fit: above what any list costs

// way is how bands are divided from one of them on: the book of the section that begins there, how many bands it has, the book of the section behind it, if there is one, and the cost of all.
type way struct{ book, bands, next, cost int }

// search has the best way from each band on, and from behind the last one, and for each book the costs of all bands before each one.
type search struct {
	bands int
	ways  [mostBands + 1]way
	sums  [mostBook + 1][]int
}

func searchOf(parts [][]int) *search {
	s := &search{bands: len(parts)}
	for b := range s.sums {
		s.sums[b] = sumsOf(b, parts)
	}
	for at := s.bands - 1; at >= 0; at-- {
		s.ways[at] = pick.Least(s.waysFrom(at), compare)
	}
	return s
}

func sumsOf(number int, parts [][]int) []int {
	sums := []int{0}
	for i, part := range parts {
		sums = append(sums, sums[i]+costOf(number, part))
	}
	return sums
}

func costOf(number int, part []int) int {
	cost, e := book.Cost(number, part)
	if e != api.OK {
		return never
	}
	return cost
}

// waysFrom gives the ways from a band on: book by book, and the shortest section first.
// The section behind one may have its book too, as both cost more than one section for all their bands, and so are not the best way.
func (s *search) waysFrom(at int) iter.Seq[way] {
	return func(yield func(way) bool) {
		for b := range s.sums {
			cost := s.run(b, at)
			for bands := 1; bands <= s.bands-at; bands++ {
				rest := s.ways[at+bands]
				if !yield(way{b, bands, rest.book, cost(bands) + rest.cost}) {
					return
				}
			}
		}
	}
}

// run tells what a section of that book costs that begins at a band, and has so many.
func (s *search) run(b, at int) func(bands int) int {
	sums := s.sums[b][at : s.bands+1 : s.bands+1]
	return func(bands int) int { return headBits(bands) + sums[bands] - sums[0] }
}

// compare puts a way that comes later, and an earlier one, in the order of their costs. Where they cost the same and begin with one book, the earlier one has its next book where the later one goes on with this.
func compare(later, earlier way) int {
	if later.cost != earlier.cost || later.book != earlier.book {
		return cmp.Compare(later.cost, earlier.cost)
	}
	return cmp.Compare(later.book, earlier.next)
}

func (s *search) cost() int { return s.ways[0].cost }

// sections gives those of the best way.
func (s *search) sections(yield func(api.Section) bool) {
	for at := 0; at < s.bands; at += s.ways[at].bands {
		if !yield(api.Section{Book: s.ways[at].book, Bands: s.ways[at].bands}) {
			return
		}
	}
}
