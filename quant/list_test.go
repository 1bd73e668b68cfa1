package quant_test

import (
	"math"
	"math/rand"
	"slices"
	"testing"

	"shawm/api"
	"shawm/quant"
)

// lists are coefficients of many kinds and lengths: none, zeros, small and great ones, values of a scale, the greatest, and any.
func lists(t *testing.T, random *rand.Rand) [][]int {
	t.Helper()
	all := [][]int{nil, {}, {0}, {1}, {-3}, {5, -5}, {api.MaxCoef}, {-api.MaxCoef}, {api.MaxCoef, 1}, {api.MaxCoef - 1}, {1 << 20}, make([]int, 128), slices.Repeat([]int{api.MaxCoef, -api.MaxCoef}, 64)}
	for i := range 24 {
		c := make([]int, 1+random.Intn(128))
		most := api.MaxCoef >> random.Intn(22)
		for k := range c {
			if c[k] = random.Intn(2*most+1) - most; i%4 == 0 {
				c[k] >>= random.Intn(22)
			}
		}
		all = append(all, c)
	}
	for range 12 {
		values := valuesOf(t, random.Intn(96))
		c := make([]int, 1+random.Intn(20))
		for k := range c {
			c[k] = values[random.Intn(1+1023>>random.Intn(10))]
		}
		all = append(all, c)
	}
	return all
}

// tables has the values of the quanta 0 to 1023, for each scale.
func tables(t *testing.T) [][]int {
	t.Helper()
	var all [][]int
	for s := range 96 {
		all = append(all, valuesOf(t, s))
	}
	return all
}

// sizeOf is the greatest absolute value of a list.
func sizeOf(c []int) int {
	size := 0
	for _, v := range c {
		size = max(size, v, -v)
	}
	return size
}

func TestQuantizeAndNoise(t *testing.T) {
	random := rand.New(rand.NewSource(2))
	values := tables(t)
	for _, c := range lists(t, random) {
		was := slices.Clone(c)
		for range 20 {
			s := random.Intn(96)
			var want []int
			for _, v := range c {
				want = append(want, quantumOf(values[s], v))
			}
			quanta, e := quant.Quantize(c, s)
			is(t, "Quantize", quanta, e, want)
			noise, e := quant.Noise(c, s)
			isOne(t, "Noise", noise, e, noiseOf(values[s], c))
			got, e := quant.Values(quanta, s)
			if e != api.OK || len(got) != len(c) {
				t.Fatalf("Values: %v, %d", got, e)
			}
			for i, v := range got {
				noise -= (c[i] - v) * (c[i] - v)
			}
			isOne(t, "Noise less that of Values", noise, e, 0)
		}
		is(t, "the list", c, api.OK, was)
	}
}

// TestLeast has the greatest values of all scales, and what is just above them.
func TestLeast(t *testing.T) {
	random := rand.New(rand.NewSource(3))
	values := tables(t)
	all := lists(t, random)
	for s := range 96 {
		top := values[s][1023]
		all = append(all, []int{0, -top}, []int{-min(top+1, api.MaxCoef)}, []int{top, 5, 1 - top})
	}
	for _, c := range all {
		was := slices.Clone(c)
		want := slices.IndexFunc(values, func(v []int) bool { return v[1023] >= sizeOf(c) })
		s, e := quant.Least(c)
		isOne(t, "Least", s, e, want)
		is(t, "the list", c, api.OK, was)
	}
}

// mostOf is Most, by the chapter's words: -1, if there is none.
func mostOf(values [][]int, c []int, limit int) int {
	for s := 95; s >= 0; s-- {
		if values[s][1023] >= sizeOf(c) && noiseOf(values[s], c) <= limit {
			return s
		}
	}
	return -1
}

// TestMost has coefficients that are just above all values of a scale too: it does not fit them, however little noise they have.
func TestMost(t *testing.T) {
	random := rand.New(rand.NewSource(4))
	values := tables(t)
	all := lists(t, random)
	for s := range 31 {
		all = append(all, []int{values[s][1023] + 1}, []int{1, -values[s][1023] - 1})
	}
	none := 0
	for _, c := range all {
		was := slices.Clone(c)
		limits := []int{0, 1, 1 << 56, len(c), 1 << random.Intn(56)}
		for range 3 {
			noise := noiseOf(values[random.Intn(96)], c)
			limits = append(limits, noise, noise+1, max(noise-1, 0))
		}
		for _, limit := range limits {
			s, e := quant.Most(c, limit)
			if want := mostOf(values, c, limit); want < 0 {
				failsOne(t, "Most", s, e, api.ErrNone)
				none++
			} else {
				isOne(t, "Most", s, e, want)
			}
		}
		is(t, "the list", c, api.OK, was)
	}
	if none == 0 {
		t.Error("nothing has no scale")
	}
}

// TestMostByHand has lists whose noise falls again where the scale rises.
func TestMostByHand(t *testing.T) {
	for _, c := range []struct {
		list        []int
		limit, want int
	}{
		{nil, 0, 95}, {make([]int, 128), 0, 95}, {[]int{3}, 0, 7}, {[]int{0, -3, 0}, 0, 7}, {[]int{1}, 0, 2}, {[]int{1}, 1, 95}, {[]int{1, 1}, 1, 2},
		{[]int{api.MaxCoef}, 0, 95}, {[]int{-api.MaxCoef, api.MaxCoef, 0}, 0, 95}, {[]int{api.MaxCoef, 1}, 0, 0}, {[]int{api.MaxCoef}, 1 << 56, 95},
		{[]int{1 << 20}, 1 << 40, 95}, {[]int{1 << 20}, 1<<40 - 1, 83},
	} {
		s, e := quant.Most(c.list, c.limit)
		if c.want == 0 {
			failsOne(t, "Most", s, e, api.ErrNone)
		} else {
			isOne(t, "Most", s, e, c.want)
		}
	}
}

// TestErrors has each list too long and with numbers outside their range, by themselves and together.
func TestErrors(t *testing.T) {
	for name, c := range map[string]struct {
		most int
		call func(list []int, s int) ([]int, api.Errno)
	}{
		"Quantize": {api.MaxCoef, quant.Quantize},
		"Values":   {api.MaxQuant, quant.Values},
		"Noise":    {api.MaxCoef, func(list []int, s int) ([]int, api.Errno) { return one(quant.Noise(list, s)) }},
		"Least":    {api.MaxCoef, func(list []int, s int) ([]int, api.Errno) { return one(quant.Least(list)) }},
		"Most":     {api.MaxCoef, func(list []int, s int) ([]int, api.Errno) { return one(quant.Most(list, 1<<56)) }},
	} {
		for _, v := range append(beyond(c.most), 0) {
			for _, n := range []int{129, 130, 1 << 16} {
				list, e := c.call(slices.Repeat([]int{v}, n), 50)
				fails(t, name+" of a long list", list, e, api.ErrFull)
			}
		}
		for _, v := range beyond(c.most) {
			for _, at := range []int{0, 64, 127} {
				list := make([]int, 128)
				list[at] = v
				got, e := c.call(list, 50)
				fails(t, name+" of what is outside the range", got, e, api.ErrRange)
				got, e = c.call([]int{v}, 50)
				fails(t, name+" of what is outside the range", got, e, api.ErrRange)
			}
		}
		if _, e := c.call(slices.Repeat([]int{c.most, -c.most}, 64), 50); e != api.OK {
			t.Errorf("%s of the greatest: %d", name, e)
		}
		got, e := c.call(nil, 0)
		if e != api.OK || slices.ContainsFunc(got, func(v int) bool { return v != 0 && name != "Most" || v != 0 && v != 95 }) {
			t.Errorf("%s of nothing: %v, %d", name, got, e)
		}
	}
}

func TestErrArg(t *testing.T) {
	for _, list := range [][]int{nil, {0}, make([]int, 129), {math.MaxInt}, slices.Repeat([]int{math.MinInt}, 1<<10)} {
		for _, s := range noScales() {
			got, e := quant.Quantize(list, s)
			fails(t, "Quantize with no scale", got, e, api.ErrArg)
			got, e = quant.Values(list, s)
			fails(t, "Values with no scale", got, e, api.ErrArg)
			noise, e := quant.Noise(list, s)
			failsOne(t, "Noise with no scale", noise, e, api.ErrArg)
		}
		for _, limit := range []int{-1, 1<<56 + 1, math.MaxInt, math.MinInt} {
			s, e := quant.Most(list, limit)
			failsOne(t, "Most with no limit", s, e, api.ErrArg)
		}
	}
}

// one is a number as a list: none, if it is zero together with an error.
func one(v int, e api.Errno) ([]int, api.Errno) {
	if v == 0 && e != api.OK {
		return nil, e
	}
	return []int{v}, e
}

// TestMemory checks that results are memory of their own, and that a change of one has no effect on later calls.
func TestMemory(t *testing.T) {
	list := []int{0, 5, -900, 1023}
	for name, call := range map[string]func([]int, int) ([]int, api.Errno){"Quantize": quant.Quantize, "Values": quant.Values} {
		first, e := call(list, 3)
		want := slices.Clone(first)
		second, _ := call(list, 3)
		clear(second[:cap(second)])
		is(t, name, first, e, want)
		third, e := call(list, 3)
		is(t, name, third, e, want)
		is(t, "the list", list, api.OK, []int{0, 5, -900, 1023})
	}
}
