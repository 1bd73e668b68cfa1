package linear_test

import (
	"math"
	"math/big"
	"math/rand"
	"slices"
	"testing"

	"shawm/api"
	"shawm/linear"
)

// floor is floor(a / b), for any numbers.
func floor(a, b *big.Int) *big.Int { return new(big.Int).Div(a, b) }

// round is round(a / b), by the document's words.
func round(a, b int) int {
	x := new(big.Int).Add(new(big.Int).Mul(big.NewInt(2), big.NewInt(int64(a))), big.NewInt(int64(b)))
	return int(floor(x, big.NewInt(int64(2*b))).Int64())
}

// filterOf is the filter of a list, by the chapter's words.
func filterOf(x []int, p int) []int {
	var g []int
	h := 0
	for j := range p + 1 {
		r := 0
		for i := 0; i+j < len(x); i++ {
			r += x[i] * x[i+j]
		}
		for j == 0 && r/(1<<h) >= 1<<30 {
			h++
		}
		g = append(g, int(floor(big.NewInt(int64(r)), big.NewInt(1<<h)).Int64()))
	}
	u, v := make([]int, p), make([]int, p)
	for i := range p {
		u[i], v[i] = g[i+1], g[i]
	}
	var filter []int
	for m := 1; m <= p; m++ {
		k := 0
		if v[0] > 0 {
			k = min(127, max(-127, round(-128*u[0], v[0])))
		}
		filter = append(filter, k)
		oldU, oldV := slices.Clone(u), slices.Clone(v)
		for i := 0; i <= p-m-1; i++ {
			u[i] = oldU[i+1] + round(k*oldV[i+1], 128)
			v[i] = oldV[i] + round(k*oldU[i], 128)
		}
	}
	return filter
}

// weightsOf are the weights of a filter, by the chapter's words: a[1] is the first one.
func weightsOf(filter []int) []int {
	a := make([]int, len(filter)+1)
	for m := 1; m <= len(filter); m++ {
		k := filter[m-1]
		old := slices.Clone(a)
		a[m] = 32 * k
		for i := 1; i <= m-1; i++ {
			a[i] = old[i] + round(k*old[m-i], 128)
		}
	}
	return a[1:]
}

// predictionOf is the prediction at the position n, by the chapter's words.
func predictionOf(x, weights []int, n int) int {
	s := 0
	for i := 1; i <= len(weights); i++ {
		if n-i >= 0 {
			s += weights[i-1] * x[n-i]
		}
	}
	return round(-s, 4096)
}

func residualOf(x, filter []int) []int {
	weights := weightsOf(filter)
	var d []int
	for n := range x {
		d = append(d, x[n]-predictionOf(x, weights, n))
	}
	return d
}

// filters are of all lengths: zeros, the greatest, with zeros at their ends, and any.
func filters(random *rand.Rand) [][]int {
	list := [][]int{nil, {}, {-96}, {1}, {0, 0, 5}, {64, 64}, {3, 0}}
	for n := 1; n <= 12; n++ {
		list = append(list, make([]int, n), slices.Repeat([]int{127}, n), slices.Repeat([]int{-127}, n), slices.Repeat([]int{127, -127}, 6)[:n], slices.Repeat([]int{-127, 127}, 6)[:n], noise(random, n, 127), noise(random, n, 9), append(noise(random, n-1, 127), 0))
	}
	return list
}

// noFilters are lists that are none.
func noFilters() [][]int {
	list := [][]int{make([]int, 13), make([]int, 14), make([]int, 1<<16), slices.Repeat([]int{1000}, 13)}
	for _, v := range append(beyond(127), 1<<56, 1<<57) {
		for n := 1; n <= 12; n++ {
			for i := range n {
				filter := make([]int, n)
				filter[i] = v
				list = append(list, filter)
			}
		}
	}
	return list
}

func TestReflectExamples(t *testing.T) {
	for _, c := range []struct {
		x, want []int
	}{
		{[]int{1, 1, 1, 1}, []int{-96}},
		{[]int{1, -1, 1, -1}, []int{96}},
		{[]int{5}, []int{0, 0, 0}},
		{nil, []int{0, 0}},
		{[]int{0, 0, 0}, []int{0, 0, 0, 0, 0, 0, 0, 0, 0, 0, 0, 0}},
		{[]int{1, 2, 3}, nil},
		// r 14 8: 73.1.
		{[]int{1, 2, 3}, []int{-73}},
		{[]int{1, -1, 0, 7, 0, 3, 0, 2}, []int{2}},
		// r 256 -1, and 256 1: in the middle between two numbers, the greater one.
		{[]int{1, -1, 0, 15, 0, 5, 0, 2}, []int{1}},
		{[]int{1, 1, 0, 15, 0, 5, 0, 2}, []int{0}},
		// The greatest, and one that would be -128.
		{slices.Repeat([]int{1}, 1000), []int{-127}},
		{slices.Repeat([]int{1, -1}, 500), []int{127}},
		{slices.Repeat([]int{most}, api.MaxSamples), []int{-127}},
		// With v_0 at 0 in the step 6, and below it from the step 5 on.
		{[]int{-1, -1, 1, 1}, []int{-32, 64, -43, 85, -127, 0}},
		{[]int{-1, -2, 0, 1}, []int{-43, 77, -85, 127, 0, 0}},
	} {
		filter, e := linear.Reflect(c.x, len(c.want))
		is(t, "Reflect", filter, e, c.want)
	}
}

// TestReflectScale has lists with the energies 2^30 and 2^30 - 1, of which just the first one is halved, and then rounded up.
func TestReflectScale(t *testing.T) {
	for _, c := range []struct{ energy, want int }{{1 << 30, 1}, {1<<30 - 1, 0}} {
		x := []int{2047, -2049, 0, 32639, 0, 221, 0, 6, 0, 4}
		if c.want == 0 {
			x = []int{2047, -2049, 0, 32638, 0, 333, 0, 56, 0, 12}
		}
		energy := 0
		for _, v := range x {
			energy += v * v
		}
		if energy != c.energy {
			t.Fatalf("the test's own list has the energy %d", energy)
		}
		filter, e := linear.Reflect(x, 1)
		is(t, "Reflect", filter, e, []int{c.want})
	}
}

// TestReflect is the promise P14.9 too.
func TestReflect(t *testing.T) {
	random := rand.New(rand.NewSource(2))
	for range 10 {
		for _, x := range append(samples(random), noise(random, api.MaxSamples, most), tone(random, api.MaxSamples, most)) {
			was := slices.Clone(x)
			for order := range 13 {
				filter, e := linear.Reflect(x, order)
				is(t, "Reflect", filter, e, filterOf(x, order))
				is(t, "the list", x, api.OK, was)
			}
			first, e := linear.Reflect(x, 1)
			r := 0
			for i := 1; i < len(x); i++ {
				r += x[i-1] * x[i]
			}
			if len(first) != 1 || e != api.OK || first[0] > 0 && r >= 0 || first[0] < 0 && r <= 0 {
				t.Fatalf("Reflect of %v: %v, %d, with r_1 %d", x, first, e, r)
			}
		}
	}
	for order := range 13 {
		for _, n := range []int{0, 1, 12, 128, api.MaxSamples} {
			filter, e := linear.Reflect(make([]int, n), order)
			is(t, "Reflect of zeros", filter, e, make([]int, order))
		}
	}
}

// TestReflectLittle has slow sines that are predicted so well that v_0 falls to small numbers, 1 among them.
func TestReflectLittle(t *testing.T) {
	random := rand.New(rand.NewSource(8))
	x := []int{-2, -4, -6, -7, -8, -8, -7, -6, -4, -2, 0, 2, 4, 6, 7, 8, 8, 7, 6, 4, 2, 0, -2, -4, -6, -7, -8, -8, -7, -6, -4, -2, 0, 2, 4, 6, 7, 8, 8, 7, 6, 4, 2, 0, -2, -4, -6, -7, -8, -8, -7, -6, -4, -2}
	for range 2000 {
		filter, e := linear.Reflect(x, 12)
		is(t, "Reflect", filter, e, filterOf(x, 12))
		x = make([]int, 20+random.Intn(100))
		size, speed, start := 1+random.Intn(8), random.Float64(), 6*random.Float64()
		for i := range x {
			x[i] = int(math.Round(float64(size) * math.Sin(speed*float64(i)+start)))
		}
	}
}

func TestReflectErrors(t *testing.T) {
	bad := slices.Repeat([]int{math.MinInt}, api.MaxSamples+1)
	for _, order := range wrongOrders() {
		for _, x := range [][]int{nil, {1}, {math.MaxInt}, bad} {
			list, e := linear.Reflect(x, order)
			fails(t, "Reflect of a wrong order", list, e, api.ErrArg)
		}
	}
	for order := range 13 {
		for _, x := range [][]int{bad, make([]int, api.MaxSamples+1), make([]int, 1<<16)} {
			list, e := linear.Reflect(x, order)
			fails(t, "Reflect of too much", list, e, api.ErrFull)
		}
		for _, v := range beyond(most) {
			for i := range 20 {
				x := make([]int, 20)
				x[i] = v
				list, e := linear.Reflect(x, order)
				fails(t, "Reflect out of range", list, e, api.ErrRange)
			}
		}
	}
}

func TestWeights(t *testing.T) {
	random := rand.New(rand.NewSource(3))
	for _, c := range []struct{ filter, want []int }{
		{nil, nil}, {[]int{-96}, []int{-3072}}, {[]int{64, 64}, []int{3072, 2048}}, {[]int{0, 0, 5}, []int{0, 0, 160}},
		// 33 and -33 of the first one's 32: 8.25 and -8.25; and a half, rounded up on both sides.
		{[]int{1, 33}, []int{40, 1056}}, {[]int{1, -33}, []int{24, -1056}}, {[]int{1, 2}, []int{33, 64}}, {[]int{-1, 2}, []int{-32, 64}},
		// Both with the weights as they were: 160 and 64, of which 50 hundredths are added to the other one.
		{[]int{3, 2, 64}, []int{98 + 32, 64 + 49, 2048}},
	} {
		weights, e := linear.Weights(c.filter)
		is(t, "Weights", weights, e, c.want)
	}
	for range 200 {
		for _, filter := range filters(random) {
			was := slices.Clone(filter)
			weights, e := linear.Weights(filter)
			is(t, "Weights", weights, e, weightsOf(filter))
			is(t, "the filter", filter, api.OK, was)
		}
	}
}

// TestResidual is the promises P14.6 and P14.7 too.
func TestResidual(t *testing.T) {
	random := rand.New(rand.NewSource(4))
	d, e := linear.Residual([]int{1, 1, 1, 1}, []int{-96})
	is(t, "Residual", d, e, []int{1, 0, 0, 0})
	for _, x := range append(samples(random), noise(random, api.MaxSamples, most), slices.Repeat([]int{most}, api.MaxSamples)) {
		was := slices.Clone(x)
		for _, filter := range filters(random) {
			d, e := linear.Residual(x, filter)
			is(t, "Residual", d, e, residualOf(x, filter))
			again, e := linear.Restore(d, filter)
			is(t, "Restore of Residual", again, e, x)
			is(t, "the list", x, api.OK, was)
			trimmed, _ := linear.Trim(filter)
			same, e := linear.Residual(x, trimmed)
			is(t, "Residual of the trimmed filter", same, e, d)
			if len(trimmed) == 0 {
				is(t, "Residual of no filter", d, e, x)
			}
		}
	}
}

// TestOwnFilters takes the filters of the lists themselves, which leave less of tones.
func TestOwnFilters(t *testing.T) {
	random := rand.New(rand.NewSource(5))
	for range 50 {
		x := tone(random, 1000, 1<<15)
		filter, e := linear.Reflect(x, 12)
		is(t, "Reflect", filter, e, filterOf(x, 12))
		d, e := linear.Residual(x, filter)
		is(t, "Residual", d, e, residualOf(x, filter))
		again, e := linear.Restore(d, filter)
		is(t, "Restore", again, e, x)
		before, after := 0, 0
		for i := range x {
			before, after = before+x[i]*x[i], after+d[i]*d[i]
		}
		if after > before {
			t.Errorf("the residual of %v has the energy %d, more than %d", filter, after, before)
		}
	}
}

// TestRestoreOutOfRange has residuals of lists in which single elements are just out of range, and some with which all elements grow.
func TestRestoreOutOfRange(t *testing.T) {
	random := rand.New(rand.NewSource(6))
	for _, filter := range filters(random) {
		for i := range 20 {
			for _, v := range []int{most + 1, -most - 1, 1 << 30} {
				x := noise(random, 20, 1000)
				x[i] = v
				list, e := linear.Restore(residualOf(x, filter), filter)
				fails(t, "Restore to what is out of range", list, e, api.ErrRange)
			}
			for _, v := range append(beyond(1<<40), 1<<40, -1<<40) {
				d := make([]int, 20)
				d[i] = v
				list, e := linear.Restore(d, filter)
				fails(t, "Restore of what is out of range", list, e, api.ErrRange)
			}
		}
	}
	for _, v := range []int{127, -127} {
		growing := append(slices.Repeat([]int{v}, 11), 0)
		list, e := linear.Restore(slices.Repeat([]int{1 << 20}, api.MaxSamples), growing)
		fails(t, "Restore of what grows", list, e, api.ErrRange)
	}
}

// TestRestoreFar has residuals far out of the range of lists, at the ends of which the elements still are in it.
func TestRestoreFar(t *testing.T) {
	random := rand.New(rand.NewSource(7))
	far := 0
	for _, filter := range filters(random) {
		signs := slices.Repeat([]int{most, -most, -most, most, most}, 8)
		for _, x := range [][]int{signs, slices.Repeat([]int{most}, 40), slices.Repeat([]int{most, -most}, 20)} {
			d := residualOf(x, filter)
			far = max(far, slices.Max(d))
			list, e := linear.Restore(d, filter)
			is(t, "Restore", list, e, x)
		}
	}
	if far < 1<<30 {
		t.Fatalf("the test's own residuals are at most %d", far)
	}
}

func TestFilterErrors(t *testing.T) {
	full := slices.Repeat([]int{math.MaxInt}, api.MaxSamples+1)
	for _, filter := range noFilters() {
		list, e := linear.Weights(filter)
		fails(t, "Weights of no filter", list, e, api.ErrArg)
		list, e = linear.Trim(filter)
		fails(t, "Trim of no filter", list, e, api.ErrArg)
		for _, x := range [][]int{nil, {1, 2, 3}, {math.MaxInt}, full} {
			list, e = linear.Residual(x, filter)
			fails(t, "Residual with no filter", list, e, api.ErrArg)
			list, e = linear.Restore(x, filter)
			fails(t, "Restore with no filter", list, e, api.ErrArg)
		}
	}
	for _, filter := range [][]int{nil, {5}, make([]int, 12)} {
		for _, x := range [][]int{full, make([]int, api.MaxSamples+1), make([]int, 1<<16)} {
			list, e := linear.Residual(x, filter)
			fails(t, "Residual of too much", list, e, api.ErrFull)
			list, e = linear.Restore(x, filter)
			fails(t, "Restore of too much", list, e, api.ErrFull)
		}
		for _, v := range beyond(most) {
			for i := range 20 {
				x := make([]int, 20)
				x[i] = v
				list, e := linear.Residual(x, filter)
				fails(t, "Residual out of range", list, e, api.ErrRange)
			}
		}
	}
}

func TestTrim(t *testing.T) {
	for _, c := range []struct{ filter, want []int }{
		{nil, nil}, {[]int{}, nil}, {[]int{0}, nil}, {make([]int, 12), nil}, {[]int{5, 0}, []int{5}}, {[]int{0, 0, -5, 0, 0}, []int{0, 0, -5}},
		{[]int{1, 0, 2}, []int{1, 0, 2}}, {[]int{127, -127}, []int{127, -127}},
		{[]int{1, 0, 0, 0, 0, 0, 0, 0, 0, 0, 0, 0}, []int{1}}, {[]int{0, 0, 0, 0, 0, 0, 0, 0, 0, 0, 0, 1}, []int{0, 0, 0, 0, 0, 0, 0, 0, 0, 0, 0, 1}},
	} {
		list, e := linear.Trim(c.filter)
		is(t, "Trim", list, e, c.want)
	}
}
