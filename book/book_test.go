package book_test

import (
	"math"
	"math/rand"
	"slices"
	"testing"

	"shawm/api"
	"shawm/book"
	"shawm/prefix"
)

// row is one of the chapter's table.
type row struct {
	dimension, most, fall int
	hasEscape             bool
}

func rows() []row {
	return []row{
		{1, 0, 0, false}, {4, 1, 5, false}, {4, 2, 7, false}, {2, 4, 9, false}, {2, 7, 11, false}, {2, 12, 13, false}, {2, 15, 12, true}, {1, 31, 14, true},
	}
}

// noBooks are numbers that no book has.
func noBooks() []int { return []int{-1, 8, 9, 100, 1 << 40, math.MaxInt, math.MinInt} }

func size(v int) int { return max(v, -v) }

// symbols are the digits of each symbol, in the order of the symbols.
func (b row) symbols() [][]int {
	all := [][]int{nil}
	for range b.dimension {
		var longer [][]int
		for _, digits := range all {
			for d := range b.most + 1 {
				longer = append(longer, append(slices.Clone(digits), d))
			}
		}
		all = longer
	}
	return all
}

func sum(digits []int) int {
	n := 0
	for _, d := range digits {
		n += d
	}
	return n
}

// count is that of a symbol whose digits sum to e.
func (b row) count(e int) int {
	if e == 0 {
		return 1 << 20
	}
	return max(1, b.count(e-1)*b.fall/16)
}

// lengths are those of the symbols' counts, by layer 4.
func (b row) lengths(t *testing.T) []int {
	t.Helper()
	if b.most == 0 {
		return nil
	}
	var counts []int
	for _, digits := range b.symbols() {
		counts = append(counts, b.count(sum(digits)))
	}
	lengths, e := prefix.Lengths(counts, 16)
	if e != api.OK {
		t.Fatalf("there are no lengths: %d", e)
	}
	return lengths
}

func (b row) fits(l []int) bool {
	most := b.most
	if b.hasEscape {
		most = 1023
	}
	return len(l)%b.dimension == 0 && !slices.ContainsFunc(l, func(v int) bool { return size(v) > most })
}

func is[T comparable](t *testing.T, name string, got T, e api.Errno, want T) {
	t.Helper()
	if got != want || e != api.OK {
		t.Errorf("%s: %v, %d, want %v", name, got, e, want)
	}
}

func fails[T comparable](t *testing.T, name string, got T, e, want api.Errno) {
	t.Helper()
	if got != *new(T) || e != want {
		t.Errorf("%s: %v, %d, want the error %d", name, got, e, want)
	}
}

// lists are values of many kinds and lengths: none, zeros, those at and above the most of each book, the greatest, and any.
func lists() [][]int {
	random := rand.New(rand.NewSource(17))
	all := [][]int{
		nil, {}, {0}, {0, 0}, {0, 0, 0}, {0, 0, 0, 0}, {0, 1, 0, -1}, {0, 0, 0, 2}, {-40}, {1023}, {-1023}, {1023, -1023}, {-1}, {1, 1, 1}, make([]int, 128),
		slices.Repeat([]int{1023, -1023}, 64), slices.Repeat([]int{1}, 127), slices.Repeat([]int{-15, 16}, 10), make([]int, 5000),
	}
	for _, b := range rows() {
		for _, most := range []int{b.most - 1, b.most, b.most + 1} {
			for n := range 9 {
				l := make([]int, n)
				for i := range l {
					l[i] = max(most, 0)
					if random.Intn(2) == 0 {
						l[i] = random.Intn(2*l[i]+1) - l[i]
					}
				}
				all = append(all, l)
			}
		}
	}
	for range 200 {
		l := make([]int, random.Intn(100))
		most := 1023 >> random.Intn(11)
		for i := range l {
			l[i] = random.Intn(2*most+1) - most
		}
		all = append(all, l)
	}
	return all
}

// noLists have an element that is no value.
func noLists() [][]int {
	var all [][]int
	for _, v := range []int{1024, -1024, 1 << 20, 1 << 40, math.MaxInt, math.MinInt} {
		all = append(all, []int{v}, []int{0, v}, []int{v, 0, 0, 0}, []int{0, 0, 0, v}, []int{0, v, 0}, append(make([]int, 5000), v))
	}
	return all
}

func TestShape(t *testing.T) {
	for number, b := range rows() {
		dimension, most, e := book.Shape(number)
		is(t, "the dimension", dimension, e, b.dimension)
		is(t, "the most", most, e, b.most)
	}
	for _, number := range noBooks() {
		dimension, most, e := book.Shape(number)
		fails(t, "Shape of no book", dimension, e, api.ErrNone)
		fails(t, "Shape of no book", most, e, api.ErrNone)
	}
}

func TestLengths(t *testing.T) {
	for number, b := range rows() {
		want := b.lengths(t)
		lengths, e := book.Lengths(number)
		if !slices.Equal(lengths, want) || e != api.OK {
			t.Errorf("Lengths of %d: %v, %d, want %v", number, lengths, e, want)
		}
		clear(lengths)
		if lengths, e = book.Lengths(number); !slices.Equal(lengths, want) || e != api.OK {
			t.Errorf("Lengths of %d are not new each time: %v, %d", number, lengths, e)
		}
	}
	for _, number := range noBooks() {
		lengths, e := book.Lengths(number)
		if len(lengths) != 0 || e != api.ErrNone {
			t.Errorf("Lengths of %d: %v, %d", number, lengths, e)
		}
	}
	if lengths, e := book.Lengths(1); !slices.Equal(lengths, []int{2, 3, 3, 5, 3, 5, 5, 7, 3, 5, 5, 6, 5, 6, 6, 7}) || e != api.OK {
		t.Errorf("Lengths of 1: %v, %d", lengths, e)
	}
}

// TestComplete is what the promise P17.7 says of the lengths.
func TestComplete(t *testing.T) {
	for number, b := range rows()[1:] {
		lengths, _ := book.Lengths(number + 1)
		complete, e := prefix.Complete(lengths)
		is(t, "Complete", complete, e, true)
		longest := map[int]int{}
		for symbol, digits := range b.symbols() {
			longest[sum(digits)] = max(longest[sum(digits)], lengths[symbol])
		}
		for symbol, digits := range b.symbols() {
			for e := range sum(digits) {
				if lengths[symbol] < longest[e] {
					t.Fatalf("book %d: the symbol %d has %d bits, and one whose digits sum to %d has %d", number+1, symbol, lengths[symbol], e, longest[e])
				}
			}
		}
	}
}

func TestFits(t *testing.T) {
	for _, l := range lists() {
		for number, b := range rows() {
			fits, e := book.Fits(number, l)
			is(t, "Fits", fits, e, b.fits(l))
		}
	}
	for _, c := range []struct {
		book int
		l    []int
		want bool
	}{
		{0, []int{0, 0, 0}, true}, {0, []int{0, 1}, false}, {1, []int{1, -1, 1, 1}, true}, {1, []int{1, 2, 1, 1}, false}, {1, []int{0, 0, 0}, false},
		{2, []int{-2, 2, 0, 0}, true}, {2, []int{-3, 0, 0, 0}, false}, {3, []int{4, -4}, true}, {3, []int{5, 0}, false}, {4, []int{7, -7}, true}, {4, []int{0, -8}, false},
		{5, []int{12, -12}, true}, {5, []int{13, 0}, false}, {6, []int{-1023, 1023}, true}, {6, []int{5}, false}, {7, []int{1023}, true}, {5, nil, true},
	} {
		fits, e := book.Fits(c.book, c.l)
		is(t, "Fits", fits, e, c.want)
	}
}

func TestCost(t *testing.T) {
	for _, l := range lists() {
		was := slices.Clone(l)
		for number, b := range rows() {
			cost, e := book.Cost(number, l)
			if !b.fits(l) {
				fails(t, "Cost of a list that does not fit", cost, e, api.ErrForm)
				continue
			}
			is(t, "Cost", cost, e, len(b.text(t, l)))
		}
		if !slices.Equal(l, was) {
			t.Errorf("the list became %v", l)
		}
	}
	for _, c := range []struct {
		book int
		l    []int
		want int
	}{
		{0, []int{0, 0, 0}, 0}, {1, []int{0, 1, 0, -1}, 5 + 2}, {1, make([]int, 8), 4}, {7, []int{-40}, 9 + 1 + 7}, {7, []int{31}, 9 + 1 + 1}, {7, []int{30}, 9 + 1},
		{6, []int{15, 0}, 10 + 1 + 1}, {6, []int{1023, -1023}, 16 + 2 + 19 + 19}, {3, nil, 0}, {7, []int{1023}, 9 + 1 + 19},
	} {
		cost, e := book.Cost(c.book, c.l)
		is(t, "Cost", cost, e, c.want)
	}
}

// TestSigns is what the promise P17.7 says of the cost.
func TestSigns(t *testing.T) {
	random := rand.New(rand.NewSource(7))
	for _, l := range lists() {
		turned := slices.Clone(l)
		for i := range turned {
			if random.Intn(2) == 0 {
				turned[i] = -turned[i]
			}
		}
		for number := range rows() {
			cost, e := book.Cost(number, l)
			other, f := book.Cost(number, turned)
			if cost != other || e != f {
				t.Errorf("Cost of %v in %d: %d, %d; of %v %d, %d", l, number, cost, e, turned, other, f)
			}
		}
	}
}

// TestSum is what the promise P17.6 says of two lists.
func TestSum(t *testing.T) {
	all := lists()
	for i, a := range all {
		l := all[(i*31+7)%len(all)]
		for number, b := range rows() {
			if !b.fits(a) || !b.fits(l) {
				continue
			}
			one, _ := book.Cost(number, a)
			other, _ := book.Cost(number, l)
			both, e := book.Cost(number, slices.Concat(a, l))
			is(t, "Cost of two lists", both, e, one+other)
		}
	}
}

// TestBest is what the promise P17.6 says of Best.
func TestBest(t *testing.T) {
	seen := map[int]bool{}
	for _, l := range lists() {
		was := slices.Clone(l)
		want, least := -1, 0
		for number, b := range rows() {
			if b.fits(l) {
				if cost := len(b.text(t, l)); want < 0 || cost < least {
					want, least = number, cost
				}
			}
		}
		best, cost, e := book.Best(l)
		is(t, "the book of Best", best, e, want)
		is(t, "the cost of Best", cost, e, least)
		seen[best] = true
		if !slices.Equal(l, was) {
			t.Errorf("the list became %v", l)
		}
	}
	if len(seen) != 8 {
		t.Errorf("the best books of the lists are only %v", seen)
	}
	// Of two books that cost the same, the first one.
	first, e := book.Cost(3, []int{3, 0})
	second, f := book.Cost(4, []int{3, 0})
	if first != 6 || second != 6 || e != api.OK || f != api.OK {
		t.Fatalf("the books 3 and 4 cost %d and %d", first, second)
	}
	best, cost, e := book.Best([]int{3, 0})
	is(t, "the first one of two books", best, e, 3)
	is(t, "its cost", cost, e, 6)
}

func TestErrors(t *testing.T) {
	for _, l := range append(noLists(), lists()...) {
		for _, number := range noBooks() {
			fits, e := book.Fits(number, l)
			fails(t, "Fits of no book", fits, e, api.ErrNone)
			cost, e := book.Cost(number, l)
			fails(t, "Cost of no book", cost, e, api.ErrNone)
		}
	}
	for _, l := range noLists() {
		for number := range rows() {
			fits, e := book.Fits(number, l)
			fails(t, "Fits of what is no value", fits, e, api.ErrRange)
			cost, e := book.Cost(number, l)
			fails(t, "Cost of what is no value", cost, e, api.ErrRange)
		}
		best, cost, e := book.Best(l)
		fails(t, "Best of what is no value", best, e, api.ErrRange)
		fails(t, "Best of what is no value", cost, e, api.ErrRange)
	}
}
