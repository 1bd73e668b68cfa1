package scale_test

import (
	"math"
	"math/rand"
	"slices"
	"testing"

	"shawm/api"
	"shawm/prefix"
	"shawm/scale"
)

func size(v int) int { return max(v, -v) }

// counts are those of the steps' symbols, by the chapter's words.
func counts() []int {
	var all []int
	for d := -95; d <= 95; d++ {
		all = append(all, 65536/((1+size(d))*(1+size(d))))
	}
	return all
}

// lengths are those of the counts, by layer 4.
func lengths(t *testing.T) []int {
	t.Helper()
	l, e := prefix.Lengths(counts(), 16)
	if e != api.OK {
		t.Fatalf("there are no lengths: %d", e)
	}
	return l
}

func isIn[T comparable](t *testing.T, name string, list []T, e api.Errno, want []T) {
	t.Helper()
	if !slices.Equal(list, want) || e != api.OK {
		t.Errorf("%s: %v, %d, want %v", name, list, e, want)
	}
}

func is(t *testing.T, name string, v int, e api.Errno, want int) {
	t.Helper()
	if v != want || e != api.OK {
		t.Errorf("%s: %d, %d, want %d", name, v, e, want)
	}
}

// example is right scales.
type example struct {
	scales []int
	used   []bool
}

// steps are those between the scales of bands that are used.
func (x example) steps() []int {
	var steps []int
	before := -1
	for i, v := range x.scales {
		if x.used[i] && before >= 0 {
			steps = append(steps, v-before)
		}
		if x.used[i] {
			before = v
		}
	}
	return steps
}

// cost is how many bits the scales have, by the chapter's words.
func (x example) cost(lengths []int) int {
	if !slices.Contains(x.used, true) {
		return 0
	}
	n := 7
	for _, d := range x.steps() {
		n += lengths[d+95]
	}
	return n
}

// anyUsed are bands of which all, none, or some are used.
func anyUsed(random *rand.Rand, bands int) []bool {
	used := make([]bool, bands)
	often := random.Intn(5)
	for i := range used {
		used[i] = random.Intn(4) < often
	}
	return used
}

// anyOf makes scales of so many bands, near to each other or not.
func anyOf(random *rand.Rand, bands int) example {
	x := example{make([]int, bands), anyUsed(random, bands)}
	far := 1 << random.Intn(8)
	at := random.Intn(96)
	for i := range x.scales {
		at = min(max(at+random.Intn(2*far+1)-far, 0), 95)
		if x.used[i] {
			x.scales[i] = at
		}
	}
	return x
}

// examples have no, few and many bands, and all steps.
func examples() []example {
	random := rand.New(rand.NewSource(1))
	all := []example{
		{}, {[]int{}, []bool{}}, {[]int{0}, []bool{false}}, {[]int{0}, []bool{true}}, {[]int{95}, []bool{true}}, {[]int{10, 0, 12}, []bool{true, false, true}},
		{[]int{0, 95, 0, 95}, []bool{true, true, true, true}}, {make([]int, 128), make([]bool, 128)}, {make([]int, 128), slices.Repeat([]bool{true}, 128)},
		{slices.Repeat([]int{0, 95}, 64), slices.Repeat([]bool{true}, 128)}, {slices.Repeat([]int{0, 95}, 64), slices.Repeat([]bool{false, true}, 64)},
	}
	for d := 1; d <= 95; d++ {
		all = append(all, example{[]int{0, d, 0}, []bool{true, true, true}}, example{[]int{95, 95 - d, 0, 95}, []bool{true, true, false, true}})
	}
	for i := range 40 {
		all = append(all, anyOf(random, i), anyOf(random, i))
	}
	for range 40 {
		all = append(all, anyOf(random, random.Intn(129)))
	}
	return append(all, anyOf(random, 128))
}

func TestLengths(t *testing.T) {
	want := lengths(t)
	l := scale.Lengths()
	isIn(t, "Lengths", l, api.OK, want)
	clear(l)
	isIn(t, "Lengths again", scale.Lengths(), api.OK, want)
	complete, e := prefix.Complete(scale.Lengths())
	if !complete || e != api.OK {
		t.Errorf("Complete: %t, %d", complete, e)
	}
	// The steps 0, 1 and -1, and the farthest ones.
	for _, c := range []struct{ step, want int }{{0, 1}, {1, 3}, {-1, 3}, {2, 5}, {-2, 5}, {95, 15}, {-95, 15}} {
		is(t, "the length of a step", want[c.step+95], api.OK, c.want)
	}
}

// TestFar is the promise P19.7.
func TestFar(t *testing.T) {
	l, n := scale.Lengths(), counts()
	if len(l) != len(n) {
		t.Fatalf("there are %d lengths", len(l))
	}
	for a := range n {
		for b := range n {
			if n[b] > n[a] && l[a] < l[b] {
				t.Fatalf("the step %d has %d bits, and %d, which has a greater count, %d", a-95, l[a], b-95, l[b])
			}
		}
	}
	for _, x := range examples() {
		if len(x.scales) == 0 {
			continue
		}
		want, _ := scale.Cost(x.scales, x.used)
		top := slices.Max(x.scales)
		moved := example{slices.Clone(x.scales), x.used}
		for i, isUsed := range x.used {
			if isUsed {
				moved.scales[i] += 95 - top
			}
		}
		cost, e := scale.Cost(moved.scales, moved.used)
		is(t, "Cost of the same steps", cost, e, want)
	}
}

func TestCost(t *testing.T) {
	l := lengths(t)
	for _, x := range examples() {
		scales, used := slices.Clone(x.scales), slices.Clone(x.used)
		cost, e := scale.Cost(x.scales, x.used)
		is(t, "Cost", cost, e, x.cost(l))
		isIn(t, "the scales", x.scales, e, scales)
		isIn(t, "the bands that are used", x.used, e, used)
	}
	cost, e := scale.Cost([]int{10, 0, 12}, []bool{true, false, true})
	is(t, "Cost of 10 and 12", cost, e, 7+5)
	cost, e = scale.Cost([]int{0, 95, 0}, []bool{false, true, false})
	is(t, "Cost of one scale", cost, e, 7)
	cost, e = scale.Cost(nil, nil)
	is(t, "Cost of no bands", cost, e, 0)
	cost, e = scale.Cost(make([]int, 128), make([]bool, 128))
	is(t, "Cost of bands that are not used", cost, e, 0)
}

// wrong is what is no right scales, and its error.
type wrong struct {
	example
	want api.Errno
}

func wrongScales() []wrong {
	all := []wrong{
		{example{nil, []bool{true}}, api.ErrArg}, {example{[]int{1}, nil}, api.ErrArg}, {example{[]int{1, 2}, []bool{true}}, api.ErrArg}, {example{[]int{1}, []bool{true, false}}, api.ErrArg},
		{example{make([]int, 129), make([]bool, 129)}, api.ErrArg}, {example{make([]int, 129), slices.Repeat([]bool{true}, 129)}, api.ErrArg}, {example{make([]int, 128), make([]bool, 129)}, api.ErrArg},
		{example{make([]int, 5000), make([]bool, 5000)}, api.ErrArg}, {example{[]int{-1}, nil}, api.ErrArg}, {example{slices.Repeat([]int{96}, 129), make([]bool, 129)}, api.ErrArg},
		{example{[]int{1}, []bool{false}}, api.ErrForm}, {example{[]int{1, 1}, []bool{true, false}}, api.ErrForm}, {example{[]int{95, 0}, []bool{false, true}}, api.ErrForm},
		{example{append(make([]int, 127), 1), make([]bool, 128)}, api.ErrForm},
	}
	for _, v := range []int{-1, 96, 127, 1 << 40, math.MaxInt, math.MinInt} {
		for _, used := range []bool{false, true} {
			all = append(all, wrong{example{[]int{v}, []bool{used}}, api.ErrRange}, wrong{example{[]int{5, v}, []bool{true, used}}, api.ErrRange})
			// A scale out of range comes before one of a band that is not used.
			all = append(all, wrong{example{[]int{1, v, 1}, []bool{false, used, true}}, api.ErrRange})
		}
	}
	return all
}

func TestCostErrors(t *testing.T) {
	for _, x := range wrongScales() {
		if cost, e := scale.Cost(x.scales, x.used); cost != 0 || e != x.want {
			t.Errorf("Cost of %v: %d, %d, want the error %d", x.example, cost, e, x.want)
		}
	}
}

func TestUsed(t *testing.T) {
	random := rand.New(rand.NewSource(2))
	for _, c := range []struct {
		widths, l []int
		want      []bool
	}{
		{nil, nil, nil}, {[]int{}, []int{}, nil}, {[]int{1}, []int{0}, []bool{false}}, {[]int{1}, []int{-1}, []bool{true}}, {[]int{2, 2, 1}, []int{0, 0, 0, 7, 0}, []bool{false, true, false}},
		{[]int{2, 3}, []int{math.MinInt, 0, 0, 0, math.MaxInt}, []bool{true, true}}, {[]int{128, 128}, append(make([]int, 255), 1<<40), []bool{false, true}},
		{slices.Repeat([]int{1}, 128), make([]int, 128), make([]bool, 128)}, {slices.Repeat([]int{128}, 128), make([]int, 128*128), make([]bool, 128)},
	} {
		used, e := scale.Used(c.widths, c.l)
		isIn(t, "Used", used, e, c.want)
	}
	for n := range 129 {
		var widths, l []int
		want := anyUsed(random, n)
		for _, isUsed := range want {
			band := make([]int, 1+random.Intn(20))
			if isUsed {
				band[random.Intn(len(band))] = 1 - 2*random.Intn(2)
			}
			widths, l = append(widths, len(band)), append(l, band...)
		}
		wasWidths, was := slices.Clone(widths), slices.Clone(l)
		used, e := scale.Used(widths, l)
		isIn(t, "Used", used, e, want)
		isIn(t, "the widths", widths, e, wasWidths)
		isIn(t, "the values", l, e, was)
	}
	for _, c := range []struct{ widths, l []int }{
		{[]int{0}, nil}, {[]int{129}, make([]int, 129)}, {[]int{4, 0}, make([]int, 4)}, {[]int{5, -1}, make([]int, 4)}, {make([]int, 129), nil},
		{slices.Repeat([]int{1}, 129), make([]int, 129)}, {[]int{math.MaxInt}, nil}, {[]int{math.MinInt}, nil}, {[]int{math.MaxInt, math.MaxInt, 2}, nil}, {[]int{math.MinInt, math.MinInt}, nil},
		{nil, []int{0}}, {[]int{4}, nil}, {[]int{4}, make([]int, 3)}, {[]int{4}, make([]int, 5)}, {[]int{4, 4}, make([]int, 9)}, {[]int{2}, make([]int, 5000)},
	} {
		if used, e := scale.Used(c.widths, c.l); len(used) != 0 || e != api.ErrArg {
			t.Errorf("Used of %v: %v, %d", c, used, e)
		}
	}
}
