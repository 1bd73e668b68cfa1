package shape_test

import (
	"math"
	"slices"
	"testing"

	"shawm/api"
	"shawm/shape"
)

// function is one of the package's, with the lists that it does not have left out, and how great the elements of its first list may be. Over and Worst return a number, as a list of one.
type function struct {
	name           string
	most           int
	scales, limits bool
	call           func(d draft) ([]int, api.Errno)
}

func functions() []function {
	return []function{
		{"Scales", api.MaxCoef, false, true, func(d draft) ([]int, api.Errno) { return shape.Scales(d.c, d.widths, d.limits) }},
		{"Quantize", api.MaxCoef, true, false, func(d draft) ([]int, api.Errno) { return shape.Quantize(d.c, d.widths, d.scales) }},
		{"Values", api.MaxQuant, true, false, func(d draft) ([]int, api.Errno) { return shape.Values(d.c, d.widths, d.scales) }},
		{"Noises", api.MaxCoef, true, false, func(d draft) ([]int, api.Errno) { return shape.Noises(d.c, d.widths, d.scales) }},
		{"Over", api.MaxCoef, true, true, func(d draft) ([]int, api.Errno) { return one(shape.Over(d.c, d.widths, d.scales, d.limits)) }},
		{"Coarser", api.MaxCoef, true, false, func(d draft) ([]int, api.Errno) { return shape.Coarser(d.c, d.widths, d.scales, -5) }},
		{"Worst", api.MaxCoef, true, true, func(d draft) ([]int, api.Errno) { return one(shape.Worst(d.c, d.widths, d.scales, d.limits)) }},
		{"Amplify", api.MaxCoef, true, true, func(d draft) ([]int, api.Errno) { return shape.Amplify(d.c, d.widths, d.scales, d.limits) }},
	}
}

// one is a number as a list: none, if it is zero together with an error.
func one(v int, e api.Errno) ([]int, api.Errno) {
	if v == 0 && e != api.OK {
		return nil, e
	}
	return []int{v}, e
}

// fails fails unless the function returns that error, and no list.
func (f function) fails(t *testing.T, d draft, want api.Errno) {
	t.Helper()
	list, e := f.call(d)
	if len(list) != 0 || e != want {
		t.Errorf("%s of %d coefficients, the widths %v, %d scales, %d limits: %v, %d, want the error %d", f.name, len(d.c), d.widths, len(d.scales), len(d.limits), list, e, want)
	}
}

// right is a draft without an error, of that many bands of 4, and one of what is left.
func right(n int) draft {
	widths := append(slices.Repeat([]int{4}, n-1), 128-4*(n-1))
	return draft{make([]int, 128), widths, make([]int, n), make([]int, n)}
}

// noWidths are lists that are no widths.
func noWidths() [][]int {
	return [][]int{
		nil, {}, {127}, {129}, {0}, {-1}, {0, 128}, {128, 0}, {64, 0, 64}, {-1, 129}, {129, -1}, {64, 63}, {64, 65}, {1, 128}, {-128}, {-64, -64},
		slices.Repeat([]int{1}, 33), slices.Repeat([]int{4}, 33), append(slices.Repeat([]int{1}, 32), 96), slices.Repeat([]int{1}, 128), slices.Repeat([]int{4}, 31),
		// These add up to 128 where numbers wrap around.
		{math.MaxInt, math.MaxInt, 130}, {math.MinInt, math.MinInt, 128}, {math.MaxInt}, {math.MinInt}, slices.Repeat([]int{1}, 1<<16),
	}
}

func TestErrArg(t *testing.T) {
	for _, f := range functions() {
		for _, widths := range noWidths() {
			for _, n := range []int{0, 1, 128} {
				d := draft{slices.Repeat([]int{math.MaxInt}, n), widths, make([]int, len(widths)), slices.Repeat([]int{-1}, n)}
				f.fails(t, d, api.ErrArg)
				d.scales = make([]int, len(widths))
				f.fails(t, d, api.ErrArg)
			}
		}
	}
}

// TestErrForm has lists that are too short or too long, also with numbers outside their range.
func TestErrForm(t *testing.T) {
	for _, f := range functions() {
		for _, bands := range []int{1, 2, 15, 32} {
			for _, v := range []int{0, math.MinInt} {
				wrong := slices.Repeat([]int{v}, 128)
				for _, n := range []int{0, 1, 127, 129, 1 << 12} {
					d := right(bands)
					d.c = slices.Repeat([]int{v}, n)
					f.fails(t, d, api.ErrForm)
					d.scales, d.limits = wrong[:bands], wrong[:bands]
					f.fails(t, d, api.ErrForm)
				}
				for _, n := range []int{0, bands - 1, bands + 1, 33, 128} {
					if d := right(bands); f.scales && n != bands {
						d.scales, d.c = wrong[:n], wrong
						f.fails(t, d, api.ErrForm)
					}
					if d := right(bands); f.limits && n != bands {
						d.limits, d.c, d.scales = wrong[:n], wrong, wrong[:bands]
						f.fails(t, d, api.ErrForm)
					}
				}
			}
		}
	}
}

func TestErrRange(t *testing.T) {
	for _, f := range functions() {
		for _, bands := range []int{1, 15, 32} {
			for _, v := range []int{f.most + 1, -f.most - 1, math.MaxInt, math.MinInt} {
				for _, at := range []int{0, 1, 66, 127} {
					d := right(bands)
					d.c[at] = v
					f.fails(t, d, api.ErrRange)
				}
			}
			for _, v := range []int{-1, 96, math.MaxInt, math.MinInt} {
				if d := right(bands); f.scales {
					d.scales[bands-1] = v
					f.fails(t, d, api.ErrRange)
				}
			}
			for _, v := range []int{-1, 1<<56 + 1, math.MaxInt, math.MinInt} {
				if d := right(bands); f.limits {
					d.limits[bands/2] = v
					f.fails(t, d, api.ErrRange)
				}
			}
		}
	}
}

// TestEnds has the greatest and the least of all lists, and nil for those that a function does not have.
func TestEnds(t *testing.T) {
	for _, f := range functions() {
		for _, bands := range []int{1, 15, 32} {
			d := right(bands)
			d.c = slices.Repeat([]int{f.most, -f.most}, 64)
			d.scales[0], d.limits[0] = 95, 1<<56
			if !f.scales {
				d.scales = nil
			}
			if !f.limits {
				d.limits = nil
			}
			if list, e := f.call(d); len(list) == 0 || e != api.OK {
				t.Errorf("%s of the greatest: %v, %d", f.name, list, e)
			}
		}
	}
}

// TestCoarserErrors has numbers that nothing is made coarser by, and then other errors too.
func TestCoarserErrors(t *testing.T) {
	for _, n := range []int{-97, 97, 1000, math.MaxInt, math.MinInt} {
		for _, d := range []draft{right(3), {}, {c: []int{math.MaxInt}, widths: []int{128}}, {widths: []int{127}, scales: []int{-1}}} {
			if list, e := shape.Coarser(d.c, d.widths, d.scales, n); len(list) != 0 || e != api.ErrArg {
				t.Errorf("Coarser by %d: %v, %d", n, list, e)
			}
		}
	}
	for n := -96; n <= 96; n++ {
		d := right(3)
		if list, e := shape.Coarser(d.c[1:], d.widths, d.scales, n); len(list) != 0 || e != api.ErrForm {
			t.Errorf("Coarser by %d: %v, %d", n, list, e)
		}
		d.scales[2] = 96
		if list, e := shape.Coarser(d.c, d.widths, d.scales, n); len(list) != 0 || e != api.ErrRange {
			t.Errorf("Coarser by %d: %v, %d", n, list, e)
		}
	}
}

// TestMemory checks that results are memory of their own, and that a change of one has no effect on later calls.
func TestMemory(t *testing.T) {
	for _, f := range functions() {
		d := right(4)
		for i := range d.c {
			d.c[i] = i - 60
		}
		copy(d.scales, []int{3, 20, 9, 0})
		was := d.clone()
		first, e := f.call(d)
		want := slices.Clone(first)
		second, _ := f.call(d)
		clear(second[:cap(second)])
		is(t, f.name, first, e, want)
		third, e := f.call(d)
		is(t, f.name, third, e, want)
		d.unchanged(t, was)
	}
}
