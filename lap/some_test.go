package lap_test

import (
	"math"
	"math/rand"
	"slices"
	"testing"

	"shawm/api"
	"shawm/lap"
)

// TestSome is the promise P8.6: what Some has is what Inverse has there, with all other coefficients 0, and also with any.
func TestSome(t *testing.T) {
	random := rand.New(rand.NewSource(10))
	for i := range 60 {
		layout := layoutOf(random, 1+i%10)
		n := len(layout)
		c := sampleList(random, layout, api.MaxCoef)
		was := slices.Clone(c)
		all, e := lap.Inverse(c, layout)
		if e != api.OK {
			t.Fatalf("Inverse: %d", e)
		}
		for from := range n + 1 {
			for to := from; to <= n; to++ {
				begin, end := startOf(layout, from), startOf(layout, to)
				x, e := lap.Some(c, layout, from, to)
				same(t, "Some", x, e, all[begin:end])
				alone := slices.Clone(c)
				clear(alone[:startOf(layout, max(from-1, 0))])
				clear(alone[startOf(layout, min(to+1, n)):])
				y, e := lap.Inverse(alone, layout)
				if e != api.OK {
					t.Fatalf("Inverse: %d", e)
				}
				same(t, "Some", x, api.OK, y[begin:end])
			}
		}
		same(t, "the coefficients", c, api.OK, was)
	}
}

// TestSomeRange has one coefficient out of range, in each of the blocks.
func TestSomeRange(t *testing.T) {
	random := rand.New(rand.NewSource(11))
	for i := range 30 {
		layout := layoutOf(random, 1+i%7)
		n := len(layout)
		for k := range n {
			c := sampleList(random, layout, 1000)
			start := startOf(layout, k)
			for _, place := range []int{start, start + random.Intn(layout[k]), start + layout[k] - 1} {
				bad := slices.Clone(c)
				bad[place] = outside(api.MaxCoef)[random.Intn(4)]
				for from := range n + 1 {
					for to := from; to <= n; to++ {
						x, e := lap.Some(bad, layout, from, to)
						if k >= from-1 && k <= to {
							fails(t, "Some near a coefficient out of range", x, e, api.ErrRange)
							continue
						}
						want, _ := lap.Some(c, layout, from, to)
						same(t, "Some far from a coefficient out of range", x, e, want)
					}
				}
			}
		}
	}
}

func TestSomeOfNone(t *testing.T) {
	layout := []int{128, 16, 16}
	c := make([]int, 160)
	for k := range 4 {
		x, e := lap.Some(c, layout, k, k)
		same(t, "no blocks", x, e, nil)
	}
	c[0] = api.MaxCoef + 1
	for k, want := range []api.Errno{api.ErrRange, api.ErrRange, api.OK, api.OK} {
		x, e := lap.Some(c, layout, k, k)
		fails(t, "no blocks behind a coefficient out of range", x, e, want)
	}
	c[0], c[159] = 0, -api.MaxCoef-1
	for k, want := range []api.Errno{api.OK, api.OK, api.ErrRange, api.ErrRange} {
		x, e := lap.Some(c, layout, k, k)
		fails(t, "no blocks ahead of a coefficient out of range", x, e, want)
	}
}

func TestSomeErrors(t *testing.T) {
	layout := []int{128, 16, 16}
	bad := slices.Repeat([]int{math.MaxInt}, 160)
	for _, wrong := range wrongLayouts() {
		for _, c := range [][]int{nil, bad} {
			x, e := lap.Some(c, wrong, 2, 1)
			fails(t, "Some with a wrong layout", x, e, api.ErrArg)
		}
	}
	for _, length := range []int{0, 1, 128, 159} {
		x, e := lap.Some(bad[:length], layout, 2, 1)
		fails(t, "Some of another length", x, e, api.ErrForm)
	}
	x, e := lap.Some(append(slices.Clone(bad), 0), layout, 0, 1)
	fails(t, "Some of another length", x, e, api.ErrForm)
	for _, c := range [][2]int{{-1, 0}, {-1, -1}, {0, 4}, {4, 4}, {2, 1}, {3, 0}, {1, -1}, {math.MinInt, math.MaxInt}, {0, math.MaxInt}, {math.MaxInt, math.MaxInt}, {math.MinInt, math.MinInt}, {math.MinInt, 1}, {math.MaxInt, math.MinInt}} {
		for _, list := range [][]int{bad, make([]int, 160)} {
			x, e := lap.Some(list, layout, c[0], c[1])
			fails(t, "Some of blocks that are not there", x, e, api.ErrNone)
		}
	}
}

func TestOwnExamples(t *testing.T) {
	for _, c := range []struct {
		layout      []int
		k, from, to int
	}{
		{[]int{128, 16}, 0, 0, 120}, {[]int{128, 16}, 1, 136, 144}, {[]int{128}, 0, 0, 128}, {[]int{16}, 0, 0, 16},
		{[]int{128, 128}, 0, 0, 64}, {[]int{128, 128}, 1, 192, 256}, {[]int{128, 128, 128}, 1, 192, 192},
		{[]int{16, 16, 16}, 1, 24, 24}, {[]int{128, 16, 128}, 1, 136, 136}, {[]int{16, 128, 16}, 1, 24, 136},
		{[]int{128, 128, 16}, 1, 192, 248}, {[]int{16, 128, 128}, 1, 24, 80},
	} {
		if from, to, e := lap.Own(c.layout, c.k); from != c.from || to != c.to || e != api.OK {
			t.Errorf("Own of %v, %d: %d, %d, %d, want %d, %d", c.layout, c.k, from, to, e, c.from, c.to)
		}
	}
}

// TestOwn finds the positions that take part in laps by what Fold changes, and is the promise P8.7.
func TestOwn(t *testing.T) {
	random := rand.New(rand.NewSource(12))
	for i := range 60 {
		layout := layoutOf(random, 1+i%12)
		kept := slices.Clone(layout)
		x := slices.Repeat([]int{10000}, startOf(layout, len(layout)))
		folded, e := lap.Fold(x, layout)
		if e != api.OK {
			t.Fatalf("Fold: %d", e)
		}
		c := sampleList(random, layout, api.MaxCoef)
		samples, _ := lap.Inverse(c, layout)
		for k, length := range layout {
			begin := startOf(layout, k)
			from, to, e := lap.Own(layout, k)
			if e != api.OK || from < begin || from > to || to > begin+length {
				t.Fatalf("Own of %v, %d: %d, %d, %d", layout, k, from, to, e)
			}
			if from == to && from != begin+length/2 {
				t.Errorf("Own of %v, %d: %d is not the middle", layout, k, from)
			}
			for p := begin; p < begin+length; p++ {
				if (folded[p] == x[p]) != (p >= from && p < to) {
					t.Errorf("Own of %v, %d: %d, %d, but Fold at %d: %d", layout, k, from, to, p, folded[p])
				}
			}
			others := sampleList(random, layout, api.MaxCoef)
			copy(others[begin:], c[begin:begin+length])
			again, _ := lap.Inverse(others, layout)
			same(t, "samples at Own", again[from:to], api.OK, samples[from:to])
		}
		same(t, "the layout", layout, api.OK, kept)
	}
}

func TestOwnErrors(t *testing.T) {
	for _, layout := range wrongLayouts() {
		for _, k := range []int{0, -1, 1, math.MaxInt} {
			if from, to, e := lap.Own(layout, k); from != 0 || to != 0 || e != api.ErrArg {
				t.Errorf("Own of %v, %d: %d, %d, %d", layout, k, from, to, e)
			}
		}
	}
	for _, k := range []int{-1, 3, 4, math.MaxInt, math.MinInt} {
		if from, to, e := lap.Own([]int{128, 16, 16}, k); from != 0 || to != 0 || e != api.ErrNone {
			t.Errorf("Own of the block %d: %d, %d, %d", k, from, to, e)
		}
	}
}
