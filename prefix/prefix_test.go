package prefix_test

import (
	"math"
	"math/rand"
	"slices"
	"strings"
	"testing"

	"shawm/api"
	"shawm/prefix"
)

// flat is a list of n times the same number.
func flat(v, n int) []int { return slices.Repeat([]int{v}, n) }

// stairs are the lengths 1, 2, .. , 15, 16, 16.
func stairs() []int {
	var l []int
	for i := 1; i <= 16; i++ {
		l = append(l, i)
	}
	return append(l, 16)
}

// rightCodes are right codes, and whether they are complete.
func rightCodes() []struct {
	lengths  []int
	complete bool
} {
	return []struct {
		lengths  []int
		complete bool
	}{
		{[]int{2, 1, 3, 3}, true},
		{[]int{1}, false}, {[]int{16}, false}, {[]int{0, 0, 7}, false}, {[]int{0, 1, 0}, false},
		{[]int{1, 1}, true}, {[]int{1, 0, 0, 1}, true}, {[]int{1, 2}, false}, {[]int{16, 16}, false}, {[]int{3, 0, 1, 16}, false},
		{[]int{2, 2, 2, 2}, true}, {[]int{2, 2, 2}, false}, {[]int{3, 3, 1, 2}, true}, {[]int{3, 3, 2, 2, 2}, true},
		{stairs(), true}, {stairs()[:16], false}, {stairs()[1:], false},
		{flat(8, 256), true}, {flat(8, 255), false}, {append(flat(8, 255), 0), false}, {append(flat(8, 255), 9), false}, {flat(16, 256), false}, {flat(9, 256), false},
		{append(append(flat(8, 254), 7), 0), true}, {append(flat(9, 2), flat(8, 254)...), false},
		{append([]int{1, 2}, flat(10, 254)...), false}, {append(flat(10, 254), 2, 1), false},
	}
}

// wrongCodes are lengths that are no right code, with the error of Check.
func wrongCodes() []struct {
	lengths []int
	want    api.Errno
} {
	return []struct {
		lengths []int
		want    api.Errno
	}{
		{nil, api.ErrNone}, {[]int{}, api.ErrNone}, {[]int{0}, api.ErrNone}, {flat(0, 256), api.ErrNone},
		{flat(0, 257), api.ErrArg}, {append(flat(0, 256), 1), api.ErrArg}, {flat(8, 257), api.ErrArg}, {flat(1, 257), api.ErrArg},
		{[]int{-1}, api.ErrArg}, {[]int{17}, api.ErrArg}, {[]int{0, 17}, api.ErrArg}, {[]int{1, 1, 1, 17}, api.ErrArg}, {[]int{1, 1, 1, -1}, api.ErrArg}, {[]int{math.MaxInt}, api.ErrArg}, {[]int{1, math.MinInt}, api.ErrArg}, {[]int{64}, api.ErrArg},
		{[]int{1, 1, 1}, api.ErrForm}, {[]int{1, 1, 16}, api.ErrForm}, {append(stairs(), 16), api.ErrForm}, {append(flat(8, 255), 7), api.ErrForm}, {flat(1, 256), api.ErrForm}, {flat(7, 129), api.ErrForm}, {append([]int{0, 0}, flat(2, 5)...), api.ErrForm},
	}
}

func TestCheck(t *testing.T) {
	for _, c := range rightCodes() {
		if e := prefix.Check(c.lengths); e != api.OK {
			t.Errorf("Check of %v: %d", c.lengths, e)
		}
		if complete, e := prefix.Complete(c.lengths); complete != c.complete || e != api.OK {
			t.Errorf("Complete of %v: %t, %d", c.lengths, complete, e)
		}
	}
	for _, c := range wrongCodes() {
		if e := prefix.Check(c.lengths); e != c.want {
			t.Errorf("Check of %v: %d, want %d", c.lengths, e, c.want)
		}
		if complete, e := prefix.Complete(c.lengths); complete || e != c.want {
			t.Errorf("Complete of %v: %t, %d, want %d", c.lengths, complete, e, c.want)
		}
		if words, e := prefix.Codes(c.lengths); len(words) != 0 || e != c.want {
			t.Errorf("Codes of %v: %v, %d, want %d", c.lengths, words, e, c.want)
		}
	}
}

func TestCodesExamples(t *testing.T) {
	cases := []struct{ lengths, want []int }{
		{[]int{2, 1, 3, 3}, []int{2, 0, 6, 7}}, {[]int{1}, []int{0}}, {[]int{16}, []int{0}}, {[]int{0, 0, 5, 0}, []int{0, 0, 0, 0}},
		{[]int{1, 1}, []int{0, 1}}, {[]int{3, 0, 1, 16}, []int{4, 0, 0, 5 << 13}}, {[]int{4, 4, 2, 4}, []int{4, 5, 0, 6}},
		{append([]int{16, 16}, 1, 15), []int{1<<15 + 2, 1<<15 + 3, 0, 1 << 14}},
	}
	for _, c := range cases {
		if words, e := prefix.Codes(c.lengths); !slices.Equal(words, c.want) || e != api.OK {
			t.Errorf("Codes of %v: %v, %d", c.lengths, words, e)
		}
	}
	words, _ := prefix.Codes(flat(8, 256))
	for symbol, w := range words {
		if w != symbol {
			t.Errorf("the word %d of 256: %d", symbol, w)
		}
	}
	words, _ = prefix.Codes(stairs())
	for symbol, w := range words[:16] {
		if w != 1<<(symbol+1)-2 {
			t.Errorf("the word %d of the stairs: %d", symbol, w)
		}
	}
}

// wordsOf are the words of a right code as digits, by the chapter's rule; the empty one where there is none.
func wordsOf(lengths []int) []string {
	var order []int
	for symbol, length := range lengths {
		if length > 0 {
			order = append(order, symbol)
		}
	}
	slices.SortStableFunc(order, func(a, b int) int { return lengths[a] - lengths[b] })
	words := make([]string, len(lengths))
	w := 0
	for i, symbol := range order {
		if i > 0 {
			w = (w + 1) << (lengths[symbol] - lengths[order[i-1]])
		}
		words[symbol] = digits(w, lengths[symbol])
	}
	return words
}

// digits are the n lowest bits of v.
func digits(v, n int) string {
	var s strings.Builder
	for i := n - 1; i >= 0; i-- {
		s.WriteByte('0' + byte(v>>i&1))
	}
	return s.String()
}

// anyCode is a right code of n symbols, most of them with a word.
func anyCode(random *rand.Rand, n int) []int {
	lengths := make([]int, n)
	left := 1 << 16
	for _, symbol := range random.Perm(n) {
		length := random.Intn(17)
		if length > 0 && left >= 1<<(16-length) {
			lengths[symbol] = length
			left -= 1 << (16 - length)
		}
	}
	if left == 1<<16 {
		lengths[random.Intn(n)] = 1 + random.Intn(16)
	}
	return lengths
}

// codes are right codes of all kinds.
func codes() [][]int {
	var list [][]int
	for _, c := range rightCodes() {
		list = append(list, c.lengths)
	}
	random := rand.New(rand.NewSource(3))
	for i := range 300 {
		list = append(list, anyCode(random, i%256+1))
	}
	return list
}

// TestWords is the promise P4.7, and compares the words with the chapter's rule.
func TestWords(t *testing.T) {
	for _, lengths := range codes() {
		numbers, e := prefix.Codes(lengths)
		if e != api.OK || len(numbers) != len(lengths) {
			t.Fatalf("Codes of %v: %v, %d", lengths, numbers, e)
		}
		for symbol, word := range wordsOf(lengths) {
			if digits(numbers[symbol], lengths[symbol]) != word || numbers[symbol]>>lengths[symbol] != 0 {
				t.Errorf("Codes of %v: %d of the symbol %d", lengths, numbers[symbol], symbol)
			}
			for other, length := range lengths {
				if other != symbol && word != "" && length >= len(word) && numbers[other]>>(length-len(word)) == numbers[symbol] {
					t.Errorf("Codes of %v: the word of %d begins that of %d", lengths, symbol, other)
				}
			}
		}
	}
}

func TestCost(t *testing.T) {
	cases := []struct {
		lengths, counts []int
		want            int
	}{
		{[]int{2, 1, 3, 3}, []int{1, 10, 100, 1000}, 3312}, {[]int{2, 1, 3, 3}, []int{0, 0, 0, 0}, 0},
		{[]int{0, 1}, []int{0, 7}, 7}, {[]int{16}, []int{1 << 30}, 1 << 34}, {flat(16, 256), flat(1<<30, 256), 1 << 42}, {[]int{1, 0}, []int{0, 0}, 0},
	}
	for _, c := range cases {
		if cost, e := prefix.Cost(c.lengths, c.counts); cost != c.want || e != api.OK {
			t.Errorf("Cost of %v, %v: %d, %d, want %d", c.lengths, c.counts, cost, e, c.want)
		}
	}
}

func TestCostErrors(t *testing.T) {
	cases := []struct {
		lengths, counts []int
		want            api.Errno
	}{
		{[]int{1, 1}, []int{1}, api.ErrArg}, {[]int{1, 1}, []int{1, 1, 1}, api.ErrArg}, {[]int{1, 1}, nil, api.ErrArg}, {[]int{1, 1}, []int{1, 1, 0}, api.ErrArg},
		{[]int{1, 1}, []int{1, -1}, api.ErrArg}, {[]int{1, 1}, []int{1<<30 + 1, 1}, api.ErrArg}, {[]int{1, 1}, []int{1, math.MaxInt}, api.ErrArg}, {[]int{1, 1}, []int{math.MinInt, 1}, api.ErrArg},
		{[]int{0, 1}, []int{1, 1}, api.ErrNone}, {[]int{1, 0}, []int{0, 1 << 30}, api.ErrNone},
		{[]int{0, 1}, []int{1, -1}, api.ErrArg}, {[]int{0, 1}, []int{1, 1<<30 + 1}, api.ErrArg}, {[]int{0, 1}, []int{1}, api.ErrArg}, {[]int{0, 1}, []int{1, 1, 1}, api.ErrArg},
	}
	for _, c := range cases {
		if cost, e := prefix.Cost(c.lengths, c.counts); cost != 0 || e != c.want {
			t.Errorf("Cost of %v, %v: %d, %d, want the error %d", c.lengths, c.counts, cost, e, c.want)
		}
	}
	for _, c := range wrongCodes() {
		for _, counts := range [][]int{flat(1, len(c.lengths)), nil, {-1}} {
			if cost, e := prefix.Cost(c.lengths, counts); cost != 0 || e != c.want {
				t.Errorf("Cost of %v, %v: %d, %d, want the error %d", c.lengths, counts, cost, e, c.want)
			}
		}
	}
}
