package rice_test

import (
	"math"
	"math/rand"
	"slices"
	"strings"
	"testing"

	"shawm/api"
	"shawm/bittext"
	"shawm/rice"
)

// wordOf is the word of v with the parameter k, as the chapter says it.
func wordOf(v, k int) string {
	u := 2 * v
	if v < 0 {
		u = -2*v - 1
	}
	q := int(math.Floor(float64(u) / math.Exp2(float64(k))))
	if q < 24 {
		return strings.Repeat("0", q) + "1" + bittext.Number(u%int(math.Exp2(float64(k))), k)
	}
	return strings.Repeat("0", 24) + "1" + bittext.Number(u, 32)
}

// costOf is how many bits the words of l have with the parameter k.
func costOf(l []int, k int) int {
	n := 0
	for _, v := range l {
		n += len(wordOf(v, k))
	}
	return n
}

// bestOf is the least parameter with which the words of l have the least bits, and how many these are.
func bestOf(l []int) (k, cost int) {
	for other := range 15 {
		if c := costOf(l, other); other == 0 || c < cost {
			k, cost = other, c
		}
	}
	return k, cost
}

// costIn is how many bits l has when it is written with the order p, and whether it can be.
func costIn(l []int, p int) (int, bool) {
	count := []int{1, 2, 4, 8}[p]
	if len(l)%count != 0 || p > 0 && len(l) == 0 {
		return 0, false
	}
	n, cost := len(l)/count, 2
	for i := range count {
		_, c := bestOf(l[i*n : i*n+n])
		cost += 4 + c
	}
	return cost, true
}

// orderOf is the least order with which l has the least bits, and how many these are.
func orderOf(l []int) (p, cost int) {
	for other := range 4 {
		if c, can := costIn(l, other); can && (other == 0 || c < cost) {
			p, cost = other, c
		}
	}
	return p, cost
}

// numbers are integers of all sizes that have words: all small ones, the greatest ones, and those around which words get another length.
func numbers() []int {
	l := []int{1<<31 - 1, -1 << 31, 1<<31 - 2, -1<<31 + 1, 1 << 30, -1 << 30, 123456789, -987654321}
	for v := -70; v <= 70; v++ {
		l = append(l, v)
	}
	for k := range 15 {
		for _, u := range []int{23 << k, 24 << k} {
			l = append(l, u/2-2, u/2-1, u/2, u/2+1, -u/2-2, -u/2-1, -u/2, -u/2+1)
		}
	}
	return l
}

// lists are lists of many lengths and of numbers of many sizes, some with parts that are unlike.
func lists() [][]int {
	random := rand.New(rand.NewSource(5))
	all := [][]int{nil, {}, {0}, {-1}, {7}, {-1 << 31}, {1<<31 - 1}, {0, 0, 0}, numbers()}
	for i := range 300 {
		l := make([]int, []int{1, 2, 3, 4, 5, 6, 7, 8, 12, 16, 24, 33, 40, 64, 100, 128}[i%16])
		most := 1 << random.Intn(32)
		for j := range l {
			if random.Intn(len(l)) < 2 {
				most = 1 << random.Intn(5*(i%7)+2)
			}
			l[j] = random.Intn(2*most) - most
		}
		all = append(all, l)
	}
	return all
}

// wrongLists are lists that cannot be written, with their error.
func wrongLists() []struct {
	l    []int
	want api.Errno
} {
	long := make([]int, api.MaxSamples+1)
	wide := slices.Concat(long[1:], []int{1 << 31})
	return []struct {
		l    []int
		want api.Errno
	}{
		{[]int{1 << 31}, api.ErrRange}, {[]int{-1<<31 - 1}, api.ErrRange}, {[]int{math.MaxInt}, api.ErrRange}, {[]int{math.MinInt}, api.ErrRange},
		{[]int{0, 1, 2, 1 << 31, 4}, api.ErrRange}, {[]int{0, 1, 2, 3, -1<<31 - 1}, api.ErrRange}, {[]int{1 << 40, 0, 0, 0, 0, 0, 0, 0}, api.ErrRange},
		{slices.Concat(long[2:], []int{1 << 31}), api.ErrRange},
		{long, api.ErrFull}, {wide, api.ErrFull}, {slices.Repeat([]int{math.MinInt}, api.MaxSamples+1), api.ErrFull}, {make([]int, 3*api.MaxSamples), api.ErrFull},
	}
}

// is fails unless a call returns that value without an error.
func is(t *testing.T, name string, v int, e api.Errno, want int) {
	t.Helper()
	if v != want || e != api.OK {
		t.Errorf("%s: %d, %d, want %d", name, v, e, want)
	}
}

// fails fails unless a call returns that error, and zero.
func fails(t *testing.T, name string, v int, e, want api.Errno) {
	t.Helper()
	if v != 0 || e != want {
		t.Errorf("%s: %d, %d, want the error %d", name, v, e, want)
	}
}

func TestFold(t *testing.T) {
	for v, want := range map[int]int{-3: 5, 0: 0, -1: 1, 1: 2, -2: 3, 2: 4, 12: 24, 1<<31 - 1: 1<<32 - 2, -1 << 31: 1<<32 - 1} {
		u, e := rice.Fold(v)
		is(t, "Fold", u, e, want)
		back, e := rice.Unfold(want)
		is(t, "Unfold", back, e, v)
	}
	for _, v := range numbers() {
		u, e := rice.Fold(v)
		if u < 0 || u >= 1<<32 || e != api.OK {
			t.Errorf("Fold(%d) = %d, %d", v, u, e)
		}
		back, e := rice.Unfold(u)
		is(t, "Unfold of Fold", back, e, v)
	}
	for u := range 1000 {
		for _, u := range []int{u, 1<<31 - 500 + u, 1<<32 - 1 - u} {
			v, _ := rice.Unfold(u)
			back, e := rice.Fold(v)
			is(t, "Fold of Unfold", back, e, u)
		}
	}
	for _, v := range []int{1 << 31, -1<<31 - 1, 1 << 32, 1 << 62, -1 << 62, math.MaxInt, math.MinInt} {
		u, e := rice.Fold(v)
		fails(t, "Fold", u, e, api.ErrRange)
	}
	for _, u := range []int{-1, -2, 1 << 32, 1<<32 + 1, 1 << 62, math.MaxInt, math.MinInt} {
		v, e := rice.Unfold(u)
		fails(t, "Unfold", v, e, api.ErrRange)
	}
}

func TestCost(t *testing.T) {
	for _, c := range []struct {
		l       []int
		k, want int
	}{
		{[]int{-3}, 1, 4}, {[]int{12}, 0, 57}, {[]int{11}, 0, 23}, {[]int{-12}, 0, 24}, {nil, 0, 0}, {nil, 14, 0}, {[]int{0, 0, 0}, 14, 45},
		{[]int{12 << 14}, 14, 57}, {[]int{12<<14 - 1}, 14, 38}, {[]int{-12 << 14}, 14, 38}, {[]int{-12<<14 - 1}, 14, 57},
	} {
		cost, e := rice.Cost(c.l, c.k)
		is(t, "Cost", cost, e, c.want)
	}
	for _, l := range lists() {
		for k := range 15 {
			cost, e := rice.Cost(l, k)
			is(t, "Cost", cost, e, costOf(l, k))
		}
	}
}

func TestCostErrors(t *testing.T) {
	for _, c := range wrongLists() {
		for _, k := range []int{0, 7, 14} {
			cost, e := rice.Cost(c.l, k)
			fails(t, "Cost of a wrong list", cost, e, c.want)
		}
		for _, k := range []int{-1, 15, 64, math.MaxInt, math.MinInt} {
			cost, e := rice.Cost(c.l, k)
			fails(t, "Cost of a wrong list with a wrong parameter", cost, e, api.ErrArg)
		}
		k, cost, e := rice.Best(c.l)
		fails(t, "Best of a wrong list", k, e, c.want)
		fails(t, "Best of a wrong list", cost, e, c.want)
		p, cost, e := rice.Order(c.l)
		fails(t, "Order of a wrong list", p, e, c.want)
		fails(t, "Order of a wrong list", cost, e, c.want)
	}
	for _, k := range []int{-1, 15, 16, 64, math.MaxInt, math.MinInt} {
		for _, l := range [][]int{nil, {0}, {5, -5}} {
			cost, e := rice.Cost(l, k)
			fails(t, "Cost with a wrong parameter", cost, e, api.ErrArg)
		}
	}
}

// TestBest is the promise P5.6 for parameters.
func TestBest(t *testing.T) {
	for _, l := range lists() {
		wantK, want := bestOf(l)
		k, cost, e := rice.Best(l)
		is(t, "the parameter of Best", k, e, wantK)
		is(t, "the bits of Best", cost, e, want)
		for other := range 15 {
			if c, e := rice.Cost(l, other); c < cost || c == cost && other < k || e != api.OK {
				t.Errorf("Best of %v: %d, %d; with %d it is %d", l, k, cost, other, c)
			}
		}
	}
	k, cost, e := rice.Best([]int{0, 0, 0})
	is(t, "the parameter of zeros", k, e, 0)
	is(t, "the bits of zeros", cost, e, 3)
	// With 0 and with 1 as many bits: the least parameter.
	k, cost, e = rice.Best([]int{1, 0})
	is(t, "the least one of several parameters", k, e, 0)
	is(t, "its bits", cost, e, 4)
}

// TestOrder is the promise P5.6 for orders.
func TestOrder(t *testing.T) {
	seen := map[int]bool{}
	for _, l := range lists() {
		wantP, want := orderOf(l)
		p, cost, e := rice.Order(l)
		is(t, "the order", p, e, wantP)
		is(t, "the bits of Order", cost, e, want)
		for other := range 4 {
			if c, can := costIn(l, other); can && (c < cost || c == cost && other < p) {
				t.Errorf("Order of %v: %d, %d; with %d it is %d", l, p, cost, other, c)
			}
		}
		seen[p] = true
	}
	if len(seen) != 4 {
		t.Errorf("the lists have no orders but %v", seen)
	}
	for _, c := range []struct {
		l       []int
		p, cost int
	}{
		{nil, 0, 6}, {[]int{}, 0, 6}, {[]int{0}, 0, 7}, {[]int{7}, 0, 11},
		{[]int{0, 0, 1, 2}, 0, 16}, {[]int{0, 100000}, 1, 38}, {[]int{100000, 0, 0, 0}, 2, 48},
		// Two parts save four bits here, which their second parameter costs: the least order.
		{[]int{0, 14}, 0, 17},
	} {
		wantP, want := orderOf(c.l)
		if wantP != c.p || want != c.cost {
			t.Fatalf("the test's own order of %v is %d, with %d bits", c.l, wantP, want)
		}
		p, cost, e := rice.Order(c.l)
		is(t, "the order", p, e, c.p)
		is(t, "the bits of Order", cost, e, c.cost)
	}
}

// TestSize is the promise P5.7.
func TestSize(t *testing.T) {
	random := rand.New(rand.NewSource(9))
	for range 500 {
		l := make([]int, 1+random.Intn(200))
		for i := range l {
			l[i] = random.Intn(24<<14) - 12<<14
		}
		if cost, e := rice.Cost(l, 14); cost > 38*len(l) || e != api.OK {
			t.Errorf("Cost of %d elements: %d, %d", len(l), cost, e)
		}
	}
	cost, e := rice.Cost(slices.Repeat([]int{-12 << 14}, 100), 14)
	is(t, "the greatest Cost", cost, e, 3800)
}

// TestParts is the promise P5.8.
func TestParts(t *testing.T) {
	all := lists()
	for i, a := range all {
		b := all[(i*7+3)%len(all)]
		if len(a)+len(b) > api.MaxSamples {
			continue
		}
		for k := range 15 {
			one, _ := rice.Cost(a, k)
			other, _ := rice.Cost(b, k)
			both, e := rice.Cost(slices.Concat(a, b), k)
			is(t, "Cost of two lists", both, e, one+other)
		}
	}
}

func TestListsStay(t *testing.T) {
	l := []int{5, -7, 1 << 20, 0, 3, -1 << 31, 2, 2}
	kept := slices.Clone(l)
	rice.Cost(l, 3)
	rice.Best(l)
	rice.Order(l)
	if !slices.Equal(l, kept) {
		t.Errorf("the list became %v", l)
	}
}
