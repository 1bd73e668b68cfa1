package prefix_test

import (
	"math"
	"math/rand"
	"slices"
	"testing"

	"shawm/api"
	"shawm/prefix"
)

// heap is an element of a row by the chapter's rule: a coin is one symbol.
type heap struct {
	weight  int
	symbols []int
	isCoin  bool
}

// lengthsOf follows the chapter word for word.
func lengthsOf(counts []int, most int) []int {
	var coins []heap
	for symbol, count := range counts {
		if count > 0 {
			coins = append(coins, heap{count, []int{symbol}, true})
		}
	}
	slices.SortStableFunc(coins, func(a, b heap) int { return a.weight - b.weight })
	lengths := make([]int, len(counts))
	if len(coins) == 1 {
		lengths[coins[0].symbols[0]] = 1
		return lengths
	}
	row := coins
	for range most - 1 {
		next := slices.Clone(coins)
		for i := 0; i+1 < len(row); i += 2 {
			next = append(next, heap{row[i].weight + row[i+1].weight, slices.Concat(row[i].symbols, row[i+1].symbols), false})
		}
		slices.SortStableFunc(next, func(a, b heap) int {
			if a.weight == b.weight && a.isCoin != b.isCoin {
				if a.isCoin {
					return -1
				}
				return 1
			}
			return a.weight - b.weight
		})
		row = next
	}
	for _, x := range row[:2*len(coins)-2] {
		for _, symbol := range x.symbols {
			lengths[symbol]++
		}
	}
	return lengths
}

// costOf is the sum of length times count.
func costOf(lengths, counts []int) int {
	sum := 0
	for symbol, length := range lengths {
		sum += length * counts[symbol]
	}
	return sum
}

// stepsOf are the powers of 2 up to 2^30, for which the least code without a greatest length has words of 30 bits.
func stepsOf(n int) []int {
	counts := make([]int, n)
	for i := range counts {
		counts[i] = 1 << i
	}
	return counts
}

func TestLengthsExamples(t *testing.T) {
	cases := []struct {
		counts []int
		most   int
		want   []int
	}{
		{[]int{5, 1, 1, 1}, 16, []int{1, 3, 3, 2}}, {[]int{5, 1, 1, 1}, 3, []int{1, 3, 3, 2}}, {[]int{5, 1, 1, 1}, 2, []int{2, 2, 2, 2}},
		{[]int{7}, 1, []int{1}}, {[]int{7}, 16, []int{1}}, {[]int{0, 1 << 30, 0}, 5, []int{0, 1, 0}}, {append(flat(0, 255), 1), 16, append(flat(0, 255), 1)},
		{[]int{3, 9}, 1, []int{1, 1}}, {[]int{3, 0, 9}, 16, []int{1, 0, 1}}, {[]int{1, 1, 1}, 2, []int{2, 2, 1}}, {[]int{1, 1, 2}, 2, []int{2, 2, 1}}, {[]int{2, 1, 1}, 16, []int{1, 2, 2}},
		{[]int{1, 2, 4, 8}, 16, []int{3, 3, 2, 1}}, {[]int{1, 2, 4, 8}, 2, []int{2, 2, 2, 2}}, {[]int{1, 0, 2, 4, 8, 16}, 3, []int{3, 0, 3, 3, 3, 1}},
		{flat(1, 2), 1, flat(1, 2)}, {flat(9, 16), 4, flat(4, 16)}, {flat(9, 16), 16, flat(4, 16)}, {flat(1<<30, 256), 8, flat(8, 256)}, {flat(1, 256), 16, flat(8, 256)}, {flat(5, 128), 7, flat(7, 128)},
		{stepsOf(17), 16, append([]int{16}, reversed(16)...)}, {stepsOf(16), 4, flat(4, 16)},
	}
	for _, c := range cases {
		counts := slices.Clone(c.counts)
		if lengths, e := prefix.Lengths(c.counts, c.most); !slices.Equal(lengths, c.want) || e != api.OK {
			t.Errorf("Lengths of %v, %d: %v, %d, want %v", c.counts, c.most, lengths, e, c.want)
		}
		if !slices.Equal(counts, c.counts) {
			t.Errorf("Lengths changed %v", counts)
		}
	}
}

// reversed are the numbers n, .. , 1.
func reversed(n int) []int {
	var l []int
	for i := n; i > 0; i-- {
		l = append(l, i)
	}
	return l
}

func TestLengthsErrors(t *testing.T) {
	cases := []struct {
		counts []int
		most   int
		want   api.Errno
	}{
		{nil, 5, api.ErrNone}, {[]int{}, 1, api.ErrNone}, {[]int{0}, 16, api.ErrNone}, {flat(0, 256), 16, api.ErrNone},
		{nil, 0, api.ErrArg}, {nil, 17, api.ErrArg}, {[]int{1}, 0, api.ErrArg}, {[]int{1}, -1, api.ErrArg}, {[]int{1}, 17, api.ErrArg}, {[]int{1}, 64, api.ErrArg}, {[]int{1}, math.MaxInt, api.ErrArg}, {[]int{1}, math.MinInt, api.ErrArg},
		{flat(0, 257), 16, api.ErrArg}, {flat(1, 257), 16, api.ErrArg}, {flat(1, 257), 1, api.ErrArg},
		{[]int{1, -1}, 16, api.ErrArg}, {[]int{1<<30 + 1}, 16, api.ErrArg}, {[]int{0, math.MaxInt}, 16, api.ErrArg}, {[]int{0, math.MinInt}, 16, api.ErrArg}, {[]int{0, -1}, 16, api.ErrArg}, {[]int{1, 1, 1, -1}, 1, api.ErrArg},
		{[]int{1, 1, 1}, 1, api.ErrFull}, {[]int{1, 1, 0, 0, 1}, 1, api.ErrFull}, {flat(1, 5), 2, api.ErrFull}, {flat(1, 256), 7, api.ErrFull}, {flat(1, 129), 7, api.ErrFull}, {flat(1, 256), 1, api.ErrFull},
	}
	for _, c := range cases {
		if lengths, e := prefix.Lengths(c.counts, c.most); len(lengths) != 0 || e != c.want {
			t.Errorf("Lengths of %v, %d: %v, %d, want the error %d", c.counts, c.most, lengths, e, c.want)
		}
	}
	for most := 1; most <= 7; most++ {
		counts := append(flat(3, 1<<most), flat(0, 9)...)
		if lengths, e := prefix.Lengths(counts, most); !slices.Equal(lengths, append(flat(most, 1<<most), flat(0, 9)...)) || e != api.OK {
			t.Errorf("a greatest length that is just enough, %d: %v, %d", most, lengths, e)
		}
	}
}

// manyCounts are counts of up to 256 symbols: many that are the same, many that are 0, rising ones, and others.
func manyCounts() [][]int {
	random := rand.New(rand.NewSource(4))
	list := [][]int{stepsOf(31), stepsOf(20), append(stepsOf(31), stepsOf(31)...), flat(1, 255), flat(7, 3)}
	fibonacci := []int{1, 1}
	for len(fibonacci) < 40 {
		fibonacci = append(fibonacci, fibonacci[len(fibonacci)-1]+fibonacci[len(fibonacci)-2])
	}
	list = append(list, fibonacci)
	for i := range 400 {
		counts := make([]int, 1+random.Intn(1+i*255/399))
		for k := range counts {
			switch i % 4 {
			case 0:
				counts[k] = random.Intn(4)
			case 1:
				counts[k] = random.Intn(1<<30 + 1)
			case 2:
				counts[k] = 1 << random.Intn(31) >> random.Intn(3)
			default:
				counts[k] = 1 + random.Intn(2+i)
			}
		}
		counts[random.Intn(len(counts))] = 1 + random.Intn(50)
		list = append(list, counts)
	}
	return list
}

// TestLengths compares with the chapter's rule, and has the promise P4.10 and the second half of P4.8.
func TestLengths(t *testing.T) {
	for _, counts := range manyCounts() {
		used := len(counts) - len(slices.DeleteFunc(slices.Clone(counts), func(c int) bool { return c > 0 }))
		for most := 1; most <= 16; most++ {
			lengths, e := prefix.Lengths(counts, most)
			if used > 1<<most {
				if len(lengths) != 0 || e != api.ErrFull {
					t.Errorf("Lengths of %v, %d: %v, %d", counts, most, lengths, e)
				}
				continue
			}
			if want := lengthsOf(counts, most); e != api.OK || !slices.Equal(lengths, want) {
				t.Fatalf("Lengths of %v, %d: %v, %d, want %v", counts, most, lengths, e, want)
			}
			if complete, e := prefix.Complete(lengths); complete != (used >= 2) || e != api.OK || slices.Max(lengths) > most {
				t.Errorf("Lengths of %v, %d: %v, complete %t, %d", counts, most, lengths, complete, e)
			}
			checkOrder(t, counts, lengths)
		}
	}
}

// checkOrder fails if a symbol with a greater count has a longer word, or if words are not where counts are.
func checkOrder(t *testing.T, counts, lengths []int) {
	t.Helper()
	for a, length := range lengths {
		if (counts[a] > 0) != (length > 0) {
			t.Errorf("the count %d has the length %d", counts[a], length)
		}
		for b, other := range lengths {
			if counts[a] > counts[b] && counts[b] > 0 && length > other {
				t.Errorf("the count %d has the length %d, the count %d the length %d", counts[a], length, counts[b], other)
			}
		}
	}
}

// leastCost is the least cost of a right code, found by trying all of them.
func leastCost(counts []int, most int) int {
	least := math.MaxInt
	lengths := make([]int, len(counts))
	var try func(symbol, left int)
	try = func(symbol, left int) {
		if symbol == len(counts) {
			least = min(least, costOf(lengths, counts))
			return
		}
		if counts[symbol] == 0 {
			try(symbol+1, left)
			return
		}
		for length := 1; length <= most; length++ {
			if part := 1 << (16 - length); part <= left {
				lengths[symbol] = length
				try(symbol+1, left-part)
			}
		}
	}
	try(0, 1<<16)
	return least
}

// TestLeast is the promise P4.8.
func TestLeast(t *testing.T) {
	random := rand.New(rand.NewSource(5))
	for i := range 300 {
		counts := make([]int, 1+random.Intn(6))
		for k := range counts {
			counts[k] = random.Intn(1 << (1 + i%10))
		}
		counts[0] = max(counts[0], 1)
		for most := 3; most <= 6; most++ {
			lengths, e := prefix.Lengths(counts, most)
			cost, f := prefix.Cost(lengths, counts)
			if e != api.OK || f != api.OK || cost != leastCost(counts, most) || cost != costOf(lengths, counts) {
				t.Errorf("Lengths of %v, %d: %v, %d, cost %d", counts, most, lengths, e, cost)
			}
		}
	}
}

// TestLeastWithoutBound compares with what it costs to join the two least counts again and again, where that needs no words of more than 16 bits.
func TestLeastWithoutBound(t *testing.T) {
	random := rand.New(rand.NewSource(6))
	for n := 2; n <= 256; n++ {
		counts := make([]int, n)
		for k := range counts {
			counts[k] = 1000 + random.Intn(1<<random.Intn(11))
		}
		want := 0
		heaps := slices.Clone(counts)
		for len(heaps) > 1 {
			slices.Sort(heaps)
			joined := heaps[0] + heaps[1]
			want += joined
			heaps = append(heaps[2:], joined)
		}
		lengths, e := prefix.Lengths(counts, 16)
		if cost, f := prefix.Cost(lengths, counts); cost != want || e != api.OK || f != api.OK {
			t.Errorf("Lengths of %d counts: cost %d, want %d", n, cost, want)
		}
	}
}
