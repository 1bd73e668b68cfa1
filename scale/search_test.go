package scale_test

import (
	"math"
	"math/rand"
	"slices"
	"testing"

	"shawm/api"
	"shawm/scale"
)

// limits are the arguments of Choose.
type limits struct {
	low, high []int
	used      []bool
}

// all are all right scales within the limits, the lexicographically smallest ones first.
func (x limits) all() [][]int {
	lists := [][]int{nil}
	for i, isUsed := range x.used {
		low, high := 0, 0
		if isUsed {
			low, high = x.low[i], x.high[i]
		}
		var longer [][]int
		for _, l := range lists {
			for v := low; v <= high; v++ {
				longer = append(longer, append(slices.Clone(l), v))
			}
		}
		lists = longer
	}
	return lists
}

// bestOf tries all scales.
func (x limits) bestOf(lengths []int) ([]int, int) {
	var best []int
	least := -1
	for _, l := range x.all() {
		if cost := (example{l, x.used}).cost(lengths); least < 0 || cost < least {
			best, least = l, cost
		}
	}
	return best, least
}

// slowBest finds the scales of many bands: band by band the least one of those with which the rest costs least.
func (x limits) slowBest(lengths []int) ([]int, int) {
	known := map[[2]int]int{}
	price := func(before, v int) int {
		if before < 0 {
			return 7
		}
		return lengths[v-before+95]
	}
	var rest func(at, before int) int
	rest = func(at, before int) int {
		if at == len(x.used) {
			return 0
		}
		if !x.used[at] {
			return rest(at+1, before)
		}
		if cost, ok := known[[2]int{at, before}]; ok {
			return cost
		}
		least := math.MaxInt
		for v := x.low[at]; v <= x.high[at]; v++ {
			least = min(least, price(before, v)+rest(at+1, v))
		}
		known[[2]int{at, before}] = least
		return least
	}
	l := make([]int, len(x.used))
	before := -1
	for at, isUsed := range x.used {
		for v := x.low[at]; isUsed && v <= x.high[at]; v++ {
			if price(before, v)+rest(at+1, v) == rest(at, before) {
				l[at], before = v, v
				break
			}
		}
	}
	return l, rest(0, -1)
}

// anyLimits make those of so many bands, each at most so wide.
func anyLimits(random *rand.Rand, bands, wide int) limits {
	x := limits{make([]int, bands), make([]int, bands), anyUsed(random, bands)}
	far := 1 + random.Intn(95)
	at := random.Intn(96 - far + 1)
	for i := range x.low {
		x.low[i] = at + random.Intn(far)
		x.high[i] = min(x.low[i]+random.Intn(wide), 95)
		if !x.used[i] && random.Intn(2) == 0 {
			x.low[i], x.high[i] = random.Intn(96), random.Intn(96)
		}
	}
	return x
}

// chosen compares Choose with what is wanted.
func (x limits) chosen(t *testing.T, want []int, least int) {
	t.Helper()
	low, high, used := slices.Clone(x.low), slices.Clone(x.high), slices.Clone(x.used)
	l, cost, e := scale.Choose(x.low, x.high, x.used)
	if !slices.Equal(l, want) || cost != least || e != api.OK {
		t.Errorf("Choose of %v: %v, %d, %d, want %v, %d", x, l, cost, e, want, least)
	}
	isIn(t, "low", x.low, e, low)
	isIn(t, "high", x.high, e, high)
	isIn(t, "the bands that are used", x.used, e, used)
	other, e := scale.Cost(l, x.used)
	is(t, "Cost of Choose", other, e, cost)
}

// TestChoose is the promise P19.6.
func TestChoose(t *testing.T) {
	random := rand.New(rand.NewSource(3))
	l := lengths(t)
	for i := range 200 {
		x := anyLimits(random, i%6, 8)
		want, least := x.bestOf(l)
		slow, cost := x.slowBest(l)
		if !slices.Equal(want, slow) || least != cost {
			t.Fatalf("the test's own searches differ: %v, %d, and %v, %d", want, least, slow, cost)
		}
		x.chosen(t, want, least)
	}
	for range 60 {
		x := anyLimits(random, random.Intn(40), 1+random.Intn(96))
		want, least := x.slowBest(l)
		x.chosen(t, want, least)
	}
	yes := []bool{true, true, true}
	for _, c := range []struct {
		limits
		want []int
		cost int
	}{
		{limits{}, nil, 0}, {limits{[]int{10, 15}, []int{20, 30}, yes[:2]}, []int{15, 15}, 8}, {limits{[]int{3}, []int{90}, yes[:1]}, []int{3}, 7}, {limits{[]int{95}, []int{95}, yes[:1]}, []int{95}, 7},
		{limits{[]int{90}, []int{3}, []bool{false}}, []int{0}, 0}, {limits{[]int{5, 9, 0}, []int{5, 9, 95}, yes}, []int{5, 9, 9}, 7 + 6 + 1},
		// A step of 4 has 6 bits; 2 and 2 have 10, 3 and 1 have 9, and 4 and 0 have 7: the 0 first, as that is smaller.
		{limits{[]int{5, 0, 9}, []int{5, 95, 9}, yes}, []int{5, 5, 9}, 7 + 1 + 6},
		{limits{[]int{9, 0, 5}, []int{9, 95, 5}, yes}, []int{9, 5, 5}, 7 + 6 + 1},
		{limits{[]int{7, 50, 0}, []int{60, 40, 60}, []bool{true, false, true}}, []int{7, 0, 7}, 8},
	} {
		c.limits.chosen(t, c.want, c.cost)
	}
}

// TestChooseMost has as many bands and scales as there can be.
func TestChooseMost(t *testing.T) {
	all := slices.Repeat([]bool{true}, 128)
	limits{make([]int, 128), slices.Repeat([]int{95}, 128), all}.chosen(t, make([]int, 128), 7+127)
	limits{slices.Repeat([]int{0, 95}, 64), slices.Repeat([]int{0, 95}, 64), all}.chosen(t, slices.Repeat([]int{0, 95}, 64), 7+127*15)
	random := rand.New(rand.NewSource(4))
	x := anyLimits(random, 128, 96)
	x.used = all
	for i := range x.low {
		x.low[i], x.high[i] = min(x.low[i], x.high[i]), max(x.low[i], x.high[i])
	}
	want, least := x.slowBest(lengths(t))
	x.chosen(t, want, least)
}

// TestChooseOne is what the promise P19.6 says of bounds that are equal.
func TestChooseOne(t *testing.T) {
	l := lengths(t)
	for _, x := range examples() {
		limits{x.scales, x.scales, x.used}.chosen(t, x.scales, x.cost(l))
	}
	// Of bands that are not used the bounds do not matter.
	limits{[]int{4, 90, 95, 8}, []int{4, 90, 3, 8}, []bool{true, false, false, true}}.chosen(t, []int{4, 0, 0, 8}, 7+6)
}

func TestChooseErrors(t *testing.T) {
	refused := func(x limits, want api.Errno) {
		t.Helper()
		if l, cost, e := scale.Choose(x.low, x.high, x.used); len(l) != 0 || cost != 0 || e != want {
			t.Errorf("Choose of %v: %v, %d, %d, want the error %d", x, l, cost, e, want)
		}
	}
	yes := slices.Repeat([]bool{true}, 129)
	for _, x := range []limits{
		{nil, nil, yes[:1]}, {[]int{1}, nil, nil}, {nil, []int{1}, nil}, {[]int{1}, []int{1}, nil}, {[]int{1}, nil, yes[:1]}, {nil, []int{1}, yes[:1]},
		{[]int{1, 2}, []int{1, 2}, yes[:1]}, {[]int{1, 2}, []int{1}, yes[:2]}, {[]int{1}, []int{1, 2}, yes[:2]}, {[]int{1}, []int{1}, yes[:2]}, {[]int{1, 2}, []int{1, 2}, yes[:3]},
		{make([]int, 129), make([]int, 129), yes}, {make([]int, 129), make([]int, 129), make([]bool, 129)}, {make([]int, 5000), make([]int, 5000), make([]bool, 5000)},
		// The numbers of bands come before the scales.
		{[]int{-1}, nil, yes[:1]}, {[]int{96, 5}, []int{3, 2}, yes[:1]}, {slices.Repeat([]int{-1}, 129), make([]int, 129), yes},
	} {
		refused(x, api.ErrArg)
	}
	for _, v := range []int{-1, 96, 127, 1 << 40, math.MaxInt, math.MinInt} {
		for _, used := range [][]bool{yes[:2], make([]bool, 2), {true, false}, {false, true}} {
			refused(limits{[]int{v, 5}, []int{9, 9}, used}, api.ErrRange)
			refused(limits{[]int{5, v}, []int{9, 9}, used}, api.ErrRange)
			refused(limits{[]int{0, 5}, []int{v, 9}, used}, api.ErrRange)
			refused(limits{[]int{5, 0}, []int{9, v}, used}, api.ErrRange)
			// A scale out of range comes before bounds that have no scale.
			refused(limits{[]int{9, 5}, []int{5, v}, used}, api.ErrRange)
			refused(limits{[]int{v, 9}, []int{5, 5}, used}, api.ErrRange)
		}
	}
	refused(limits{[]int{1}, []int{0}, yes[:1]}, api.ErrNone)
	refused(limits{[]int{0, 95}, []int{95, 0}, yes[:2]}, api.ErrNone)
	refused(limits{[]int{9, 0}, []int{8, 95}, yes[:2]}, api.ErrNone)
	refused(limits{[]int{9, 4, 6}, []int{8, 95, 5}, []bool{false, true, true}}, api.ErrNone)
}

// TestMemory finds results that share memory with arguments.
func TestMemory(t *testing.T) {
	low, high, used := []int{3, 0, 5}, []int{9, 0, 6}, []bool{true, false, true}
	l, _, _ := scale.Choose(low, high, used)
	clear(l)
	isIn(t, "low", low, api.OK, []int{3, 0, 5})
	isIn(t, "high", high, api.OK, []int{9, 0, 6})
	again, _, e := scale.Choose(low, high, used)
	isIn(t, "Choose again", again, e, []int{5, 0, 5})
}
