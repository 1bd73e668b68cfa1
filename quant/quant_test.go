package quant_test

import (
	"math"
	"math/rand"
	"slices"
	"testing"

	"shawm/api"
	"shawm/fixed"
	"shawm/quant"
)

// is fails unless a call returned that list, without an error.
func is(t *testing.T, name string, list []int, e api.Errno, want []int) {
	t.Helper()
	if e != api.OK || !slices.Equal(list, want) {
		t.Fatalf("%s: %v, %d, want %v", name, list, e, want)
	}
}

// isOne fails unless a call returned that number, without an error.
func isOne(t *testing.T, name string, v int, e api.Errno, want int) {
	t.Helper()
	if e != api.OK || v != want {
		t.Fatalf("%s: %d, %d, want %d", name, v, e, want)
	}
}

// fails fails unless a call returned that error, and no list.
func fails(t *testing.T, name string, list []int, e, want api.Errno) {
	t.Helper()
	if len(list) != 0 || e != want {
		t.Errorf("%s: %v, %d, want the error %d", name, list, e, want)
	}
}

// failsOne fails unless a call returned that error, and zero.
func failsOne(t *testing.T, name string, v int, e, want api.Errno) {
	t.Helper()
	if v != 0 || e != want {
		t.Errorf("%s: %d, %d, want the error %d", name, v, e, want)
	}
}

// noScales are numbers that are none.
func noScales() []int { return []int{-1, 96, 97, 1 << 20, math.MaxInt, math.MinInt} }

// beyond are numbers that are just outside a range around 0, or far.
func beyond(most int) []int {
	return []int{most + 1, -most - 1, 2 * most, -2 * most, 1 << 40, math.MaxInt, math.MinInt, -math.MaxInt}
}

// valuesOf are the values of the quanta 0 to 1023 with a scale, by the chapter's words.
func valuesOf(t *testing.T, s int) []int {
	t.Helper()
	step, e := fixed.Step(s)
	if e != api.OK {
		t.Fatalf("%d has no step", s)
	}
	var values []int
	for q := range 1024 {
		p, e := fixed.Cube(4096 * q * q * q * q)
		v, f := fixed.Round(p*step, 256)
		if e != api.OK || f != api.OK {
			t.Fatalf("%d has no value", q)
		}
		values = append(values, min(v, api.MaxCoef))
	}
	return values
}

// quantumOf is the quantum of c, of all those with its sign, by the chapter's words.
func quantumOf(values []int, c int) int {
	if c < 0 {
		return -quantumOf(values, -c)
	}
	best := 0
	for q, v := range values {
		if max(v-c, c-v) < max(values[best]-c, c-values[best]) {
			best = q
		}
	}
	return best
}

// noiseOf is the noise of coefficients, by the chapter's words.
func noiseOf(values, c []int) int {
	noise := 0
	for _, v := range c {
		v = max(v, -v)
		loss := v - values[quantumOf(values, v)]
		noise += loss * loss
	}
	return noise
}

// telling are coefficients at and just beside values of a scale, and in the middle between them: of the least quanta, of the greatest ones, and of any.
func telling(random *rand.Rand, values []int) []int {
	quanta := []int{0, 1, 2, 3, 4, 5, 1020, 1021, 1022}
	for range 40 {
		quanta = append(quanta, random.Intn(1023))
	}
	most := values[1023]
	c := []int{0, 1, api.MaxCoef, api.MaxCoef - 1, min(most+1, api.MaxCoef), most, random.Intn(api.MaxCoef)}
	for _, q := range quanta {
		low, high := values[q], values[q+1]
		middle := (low + high) / 2
		c = append(c, low, high, middle, middle+1, max(middle-1, 0), max(low-1, 0), min(high+1, api.MaxCoef))
	}
	for i, v := range c {
		c[i] = min(v, api.MaxCoef)
	}
	return c
}

func TestExamples(t *testing.T) {
	for q, want := range []int{0, 16, 40, 69} {
		v, e := quant.Power(q)
		isOne(t, "Power", v, e, want)
	}
	for _, c := range []struct{ q, s, want int }{
		{2, 0, 3}, {1, 0, 1}, {3, 0, 4}, {1, 7, 3}, {1, 8, 4}, {-2, 0, -3}, {0, 0, 0}, {0, 95, 0},
		{1, 1, 1}, {1, 2, 1}, {1, 3, 2}, {1, 4, 2}, {1, 84, 1 << 21}, {1, 83, 1763584}, {1023, 95, 1 << 21}, {-1, 95, -1 << 21},
	} {
		v, e := quant.Value(c.q, c.s)
		isOne(t, "Value", v, e, c.want)
	}
	for _, c := range []struct{ c, s, want int }{
		{2, 0, 1}, {-2, 0, -1}, {3, 0, 2}, {0, 0, 0}, {1, 7, 0}, {2, 7, 1}, {1, 4, 0}, {-1, 4, 0}, {1, 3, 0}, {1, 2, 1},
		{1 << 20, 95, 0}, {1<<20 + 1, 95, 1}, {-1<<20 - 1, 95, -1}, {1 << 21, 95, 1}, {-1 << 21, 95, -1}, {1 << 21, 0, 1023}, {-1 << 21, 0, -1023},
	} {
		q, e := quant.Quantum(c.c, c.s)
		isOne(t, "Quantum", q, e, c.want)
	}
	noise, e := quant.Noise([]int{1, -2, 3, -4, 5}, 0) // 4 is the value of 3, and 5 is between 4 and 6
	isOne(t, "Noise", noise, e, 2)
}

func TestPower(t *testing.T) {
	last := -1
	for q := range 1024 {
		p, e := quant.Power(q)
		if n := 4096 * q * q * q * q; e != api.OK || p*p*p > n || (p+1)*(p+1)*(p+1) <= n || p <= last {
			t.Errorf("Power of %d: %d, %d", q, p, e)
		}
		same, e := quant.Power(-q)
		isOne(t, "Power of the opposite", same, e, p)
		last = p
	}
	for _, q := range beyond(1023) {
		p, e := quant.Power(q)
		failsOne(t, "Power of no quantum", p, e, api.ErrRange)
	}
}

// TestValue is the promises P15.5 and P15.6 too.
func TestValue(t *testing.T) {
	before := make([]int, 1024)
	for s := range 96 {
		want := valuesOf(t, s)
		for q, value := range want {
			v, e := quant.Value(q, s)
			isOne(t, "Value", v, e, value)
			opposite, e := quant.Value(-q, s)
			isOne(t, "Value of the opposite", opposite, e, -value)
			if v < before[q] || q > 0 && v < want[q-1] {
				t.Errorf("scale %d: the value of %d is %d, less than one before", s, q, v)
			}
		}
		before = want
	}
	for _, s := range noScales() {
		for _, q := range append(beyond(1023), 0, 1, -1023) {
			v, e := quant.Value(q, s)
			failsOne(t, "Value with no scale", v, e, api.ErrArg)
		}
	}
	for s := range 96 {
		for _, q := range beyond(1023) {
			v, e := quant.Value(q, s)
			failsOne(t, "Value of no quantum", v, e, api.ErrRange)
		}
	}
}

// TestQuantum is the promises P15.5, P15.6 and P15.7 too.
func TestQuantum(t *testing.T) {
	random := rand.New(rand.NewSource(1))
	for s := range 96 {
		values := valuesOf(t, s)
		c := telling(random, values)
		slices.Sort(c)
		last := 0
		for _, v := range c {
			q, e := quant.Quantum(v, s)
			isOne(t, "Quantum", q, e, quantumOf(values, v))
			opposite, e := quant.Quantum(-v, s)
			isOne(t, "Quantum of the opposite", opposite, e, -q)
			if q < last {
				t.Errorf("scale %d: the quantum of %d is %d, after %d", s, v, q, last)
			}
			last = q
			if v > values[1023] {
				continue // the scale does not fit
			}
			above := slices.IndexFunc(values, func(value int) bool { return value >= v })
			distance := values[above] - values[max(above-1, 0)]
			if 2*max(v-values[q], values[q]-v) > distance {
				t.Errorf("scale %d: the quantum of %d is %d, with the value %d", s, v, q, values[q])
			}
		}
	}
}

// TestEveryQuantum has all coefficients up to far above the greatest value of the scale 0, one after the other.
func TestEveryQuantum(t *testing.T) {
	for _, s := range []int{0, 5, 70, 95} {
		values := valuesOf(t, s)
		q := 0
		for from := 0; from < 1<<18; from += 128 {
			c, want := make([]int, 128), make([]int, 128)
			for i := range c {
				c[i] = from + i
				for q < 1023 && values[q+1]-c[i] < c[i]-values[q] {
					q++
				}
				want[i] = q
			}
			quanta, e := quant.Quantize(c, s)
			is(t, "Quantize", quanta, e, want)
		}
	}
}

func TestQuantumErrors(t *testing.T) {
	for _, s := range noScales() {
		for _, c := range append(beyond(api.MaxCoef), 0, 1, -api.MaxCoef) {
			q, e := quant.Quantum(c, s)
			failsOne(t, "Quantum with no scale", q, e, api.ErrArg)
		}
	}
	for s := range 96 {
		for _, c := range beyond(api.MaxCoef) {
			q, e := quant.Quantum(c, s)
			failsOne(t, "Quantum of no coefficient", q, e, api.ErrRange)
		}
	}
}

// TestAgain is the promise P15.4: with each scale all quanta, in lists of 128, and their opposites.
func TestAgain(t *testing.T) {
	for s := range 96 {
		want := valuesOf(t, s)
		for from := 0; from < 1024; from += 128 {
			for _, sign := range []int{1, -1} {
				quanta, signed := make([]int, 128), make([]int, 128)
				for i := range quanta {
					quanta[i], signed[i] = sign*(from+i), sign*want[from+i]
				}
				values, e := quant.Values(quanta, s)
				is(t, "Values", values, e, signed)
				again, e := quant.Quantize(values, s)
				if e != api.OK {
					t.Fatalf("Quantize: %d", e)
				}
				for i, q := range again {
					one, e := quant.Quantum(values[i], s)
					isOne(t, "Quantum of a value", one, e, q)
					v, e := quant.Value(q, s)
					isOne(t, "Value of the quantum of a value", v, e, values[i])
				}
				same, e := quant.Values(again, s)
				is(t, "Values of Quantize of Values", same, e, values)
			}
		}
	}
}

// TestScaleZero is the promise P15.8.
func TestScaleZero(t *testing.T) {
	values, e := quant.Values([]int{-2, -1, 0, 1, 2}, 0)
	is(t, "Values", values, e, []int{-3, -1, 0, 1, 3})
	noise, e := quant.Noise(slices.Repeat([]int{-1, 0, 1, 0}, 32), 0)
	isOne(t, "Noise", noise, e, 0)
	noise, e = quant.Noise([]int{2}, 0)
	isOne(t, "Noise", noise, e, 1)
}
