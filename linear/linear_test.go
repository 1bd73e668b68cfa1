package linear_test

import (
	"math"
	"math/rand"
	"slices"
	"testing"

	"shawm/api"
	"shawm/linear"
)

const most = 1 << 21 // the greatest element of a list

// is fails unless a call returns that list without an error.
func is(t *testing.T, name string, list []int, e api.Errno, want []int) {
	t.Helper()
	if e != api.OK || !slices.Equal(list, want) {
		t.Fatalf("%s: %v, %d, want %v", name, list, e, want)
	}
}

// fails fails unless a call returned that error, and no list.
func fails(t *testing.T, name string, list []int, e, want api.Errno) {
	t.Helper()
	if len(list) != 0 || e != want {
		t.Errorf("%s: %d elements, %d, want the error %d", name, len(list), e, want)
	}
}

// noise is n numbers from -most to most, of about one size.
func noise(random *rand.Rand, n, most int) []int {
	x := make([]int, n)
	for i := range x {
		x[i] = random.Intn(2*most+1) - most
	}
	return x
}

// tone is n elements of a sum of two sines, with a little noise.
func tone(random *rand.Rand, n, size int) []int {
	x := make([]int, n)
	a, b := random.Float64(), 3*random.Float64()
	for i := range x {
		v := 0.6*math.Sin(a*float64(i)) + 0.3*math.Sin(b*float64(i)) + 0.1*random.Float64()
		x[i] = int(float64(size) * v)
	}
	return x
}

// samples are lists of many kinds: short ones, even ones, the greatest, single elements, noise and tones.
func samples(random *rand.Rand) [][]int {
	signs := make([]int, 200)
	for i := range signs {
		signs[i] = most * (1 - 2*(i%2))
	}
	single := make([]int, 40)
	single[17] = -most
	late := make([]int, 128)
	copy(late[100:], noise(random, 28, 1000))
	list := [][]int{nil, {0}, {7}, {-most}, {1, 1, 1, 1}, {1, 4, 9, 16}, {5, -5}, {-3, 0, 0, 0, 0, 0, 0, 0, 0, 0, 0, 0, 0, 1}, make([]int, 128), slices.Repeat([]int{most}, 128), slices.Repeat([]int{-most}, 300), signs, single, late}
	for i := range 22 {
		list = append(list, noise(random, 1+random.Intn(200), most>>i), tone(random, 1+random.Intn(200), most>>i))
	}
	return list
}

// wrongOrders are no orders of differences or of filters.
func wrongOrders() []int { return []int{-1, 13, 14, 128, math.MaxInt, math.MinInt} }

// beyond are numbers just above a greatest one, and just below its negative, and others farther away.
func beyond(most int) []int {
	return []int{most + 1, -most - 1, 2 * most, -2 * most, math.MaxInt, math.MinInt}
}

// differences are those of order k, by the chapter's words.
func differences(x []int, k int) []int {
	for range k {
		next := make([]int, len(x))
		for i := range x {
			next[i] = x[i]
			if i > 0 {
				next[i] = x[i] - x[i-1]
			}
		}
		x = next
	}
	return x
}

func TestDifferExamples(t *testing.T) {
	for k, want := range [][]int{{1, 4, 9, 16}, {1, 3, 5, 7}, {1, 2, 2, 2}, {1, 1, 0, 0}, {1, 0, -1, 0}} {
		d, e := linear.Differ([]int{1, 4, 9, 16}, k)
		is(t, "Differ", d, e, want)
		x, e := linear.Add(want, k)
		is(t, "Add", x, e, []int{1, 4, 9, 16})
	}
}

// TestDiffer is Add and the promises P14.6 and P14.8 too.
func TestDiffer(t *testing.T) {
	random := rand.New(rand.NewSource(1))
	for range 10 {
		for _, x := range append(samples(random), noise(random, api.MaxSamples, most), slices.Repeat([]int{most, -most}, api.MaxSamples/2)) {
			for k := range 5 {
				d, e := linear.Differ(x, k)
				is(t, "Differ", d, e, differences(x, k))
				again, e := linear.Add(d, k)
				is(t, "Add of Differ", again, e, x)
			}
		}
	}
	for _, v := range []int{0, 1, -77, most, -most} {
		for _, n := range []int{1, 2, 128, api.MaxSamples} {
			want := make([]int, n)
			want[0] = v
			d, e := linear.Differ(slices.Repeat([]int{v}, n), 1)
			is(t, "Differ of one number", d, e, want)
		}
	}
}

// TestAddOutOfRange has lists with single elements that are just out of range, and single differences.
func TestAddOutOfRange(t *testing.T) {
	for k := range 5 {
		for _, n := range []int{1, 2, 5, 100} {
			for i := range n {
				for _, v := range []int{most + 1, -most - 1, 2*most - 1} {
					x := make([]int, n)
					x[i] = v
					list, e := linear.Add(differences(x, k), k)
					fails(t, "Add to what is out of range", list, e, api.ErrRange)
				}
				for _, v := range beyond(1 << 26) {
					d := make([]int, n)
					d[i] = v
					list, e := linear.Add(d, k)
					fails(t, "Add of what is out of range", list, e, api.ErrRange)
				}
			}
		}
	}
}

// TestAddOverflow has differences whose sums are greater than any number.
func TestAddOverflow(t *testing.T) {
	for k := range 5 {
		for _, v := range []int{1 << 26, -1 << 26, 1 << 22, -1 << 22} {
			list, e := linear.Add(slices.Repeat([]int{v}, api.MaxSamples), k)
			fails(t, "Add", list, e, api.ErrRange)
		}
	}
}

func TestDifferErrors(t *testing.T) {
	bad := slices.Repeat([]int{math.MaxInt}, api.MaxSamples+1)
	lists := [][]int{nil, {1}, {math.MinInt}, bad}
	for _, k := range append(wrongOrders(), 5, 6, 12) {
		for _, x := range lists {
			list, e := linear.Differ(x, k)
			fails(t, "Differ of a wrong order", list, e, api.ErrArg)
			list, e = linear.Add(x, k)
			fails(t, "Add of a wrong order", list, e, api.ErrArg)
		}
	}
	for k := range 5 {
		for _, x := range [][]int{bad, make([]int, api.MaxSamples+1), make([]int, 1<<16)} {
			list, e := linear.Differ(x, k)
			fails(t, "Differ of too much", list, e, api.ErrFull)
			list, e = linear.Add(x, k)
			fails(t, "Add of too much", list, e, api.ErrFull)
		}
		for _, v := range beyond(most) {
			for i := range 20 {
				x := make([]int, 20)
				x[i] = v
				list, e := linear.Differ(x, k)
				fails(t, "Differ out of range", list, e, api.ErrRange)
			}
		}
	}
}

// call is a function of a list that may fail.
type call func(x []int) ([]int, api.Errno)

// all are all functions of a list, with other arguments that fit.
func all() map[string]call {
	filter := []int{-100, 90, 0, 13, 0}
	return map[string]call{
		"Differ":   func(x []int) ([]int, api.Errno) { return linear.Differ(x, 3) },
		"Differ 0": func(x []int) ([]int, api.Errno) { return linear.Differ(x, 0) },
		"Add":      func(x []int) ([]int, api.Errno) { return linear.Add(x, 2) },
		"Add 0":    func(x []int) ([]int, api.Errno) { return linear.Add(x, 0) },
		"Reflect":  func(x []int) ([]int, api.Errno) { return linear.Reflect(x, 12) },
		"Weights":  linear.Weights,
		"Residual": func(x []int) ([]int, api.Errno) { return linear.Residual(x, filter) },
		"Restore":  func(x []int) ([]int, api.Errno) { return linear.Restore(x, filter) },
		"Trim":     linear.Trim,
	}
}

// TestMemory checks that no argument is changed, and that results are memory of their own.
func TestMemory(t *testing.T) {
	whole := []int{9, 3, -5, 7, 127, -127, 1, 0, 12, -1, 0, 0, 55, 66}
	for name, call := range all() {
		for n := range 13 {
			x := whole[:n]
			was := slices.Clone(whole)
			want, e := call(x)
			is(t, name, want, e, slices.Clone(want))
			got, _ := call(x)
			for i := range got[:cap(got)] {
				got[:cap(got)][i] = math.MaxInt
			}
			again, e := call(x)
			is(t, name, again, e, want)
			is(t, "the list", whole, api.OK, was)
		}
	}
	filter := []int{44, 55, -66}
	_, e := linear.Residual(whole, filter)
	is(t, "the filter", filter, e, []int{44, 55, -66})
	_, e = linear.Restore(whole, filter)
	is(t, "the filter", filter, e, []int{44, 55, -66})
}
