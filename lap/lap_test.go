package lap_test

import (
	"math"
	"math/rand"
	"slices"
	"testing"

	"shawm/api"
	"shawm/dct"
	"shawm/lap"
	"shawm/lift"
)

// call is one of the functions of a list and a layout.
type call func(x, layout []int) ([]int, api.Errno)

// calls are these functions.
func calls() []call { return []call{lap.Forward, lap.Inverse, lap.Fold, lap.Unfold} }

// layoutOf has n blocks; most of its runs of short ones are as long as in frames.
func layoutOf(random *rand.Rand, n int) []int {
	var layout []int
	for len(layout) < n {
		switch random.Intn(4) {
		case 0:
			layout = append(layout, slices.Repeat([]int{16}, 8)...)
		case 1:
			layout = append(layout, 16)
		default:
			layout = append(layout, 128)
		}
	}
	return layout[:n]
}

// startOf is where the k-th block begins.
func startOf(layout []int, k int) int {
	start := 0
	for _, length := range layout[:k] {
		start += length
	}
	return start
}

// listOf has n numbers from -most to most of all sizes, or some of the greatest ones alone.
func listOf(random *rand.Rand, n, most int) []int {
	x := make([]int, n)
	below := most >> random.Intn(12)
	extreme := random.Intn(4) == 0
	for i := range x {
		x[i] = random.Intn(2*below+1) - below
		if extreme {
			x[i] = most * (1 - 2*random.Intn(2))
		}
	}
	return x
}

// sampleList is a list that fits a layout.
func sampleList(random *rand.Rand, layout []int, most int) []int {
	return listOf(random, startOf(layout, len(layout)), most)
}

// outside are numbers that are not from -most to most.
func outside(most int) []int { return []int{most + 1, -most - 1, math.MaxInt, math.MinInt} }

// foldedOf is x with all pairs of the chapter turned.
func foldedOf(t *testing.T, x, layout []int, turn func(x, y, n, d int) (int, int, api.Errno)) []int {
	t.Helper()
	y := slices.Clone(x)
	p := 0
	for k := 0; k+1 < len(layout); k++ {
		p += layout[k]
		l := 128
		if layout[k] == 16 || layout[k+1] == 16 {
			l = 16
		}
		for i := 0; i <= l/2-1; i++ {
			a, b, e := turn(x[p-1-i], x[p+i], l-2*i-1, 8*l)
			if e != api.OK {
				t.Fatalf("(%d, %d) is not turned: %d", x[p-1-i], x[p+i], e)
			}
			y[p-1-i], y[p+i] = a, b
		}
	}
	return y
}

// blockwise replaces each block by what call makes of it.
func blockwise(t *testing.T, x, layout []int, call func([]int) ([]int, api.Errno)) []int {
	t.Helper()
	var y []int
	for k, length := range layout {
		start := startOf(layout, k)
		block, e := call(x[start : start+length])
		if e != api.OK {
			t.Fatalf("block %d is not transformed: %d", k, e)
		}
		y = append(y, block...)
	}
	return y
}

// same fails unless a call returned that list, without an error.
func same(t *testing.T, name string, x []int, e api.Errno, want []int) {
	t.Helper()
	if e != api.OK || !slices.Equal(x, want) {
		t.Fatalf("%s: %v, %d, want %v", name, x, e, want)
	}
}

// fails fails unless a call returned that error, and no list.
func fails(t *testing.T, name string, x []int, e, want api.Errno) {
	t.Helper()
	if len(x) != 0 || e != want {
		t.Errorf("%s: %d elements, %d, want the error %d", name, len(x), e, want)
	}
}

func TestFoldExample(t *testing.T) {
	x := make([]int, 32)
	x[15], x[16] = 1000, 1000
	y, e := lap.Fold(x, []int{16, 16})
	if e != api.OK || len(y) != 32 {
		t.Fatalf("Fold: %v, %d", y, e)
	}
	sin, cos := math.Sincos(2 * math.Pi * 15 / 128)
	if math.Abs(float64(y[15])-1000*(cos-sin)) > 1 || math.Abs(float64(y[16])-1000*(sin+cos)) > 1 {
		t.Errorf("Fold: %d, %d", y[15], y[16])
	}
	y[15], y[16] = 0, 0
	same(t, "all else", y, api.OK, make([]int, 32))
}

// TestOneBlock has no lap: it is the transform of the block alone.
func TestOneBlock(t *testing.T) {
	random := rand.New(rand.NewSource(1))
	for _, length := range []int{16, 128} {
		layout := []int{length}
		x := listOf(random, length, 65536)
		y, e := lap.Fold(x, layout)
		same(t, "Fold", y, e, x)
		y, e = lap.Unfold(x, layout)
		same(t, "Unfold", y, e, x)
		want, _ := dct.Forward(x)
		y, e = lap.Forward(x, layout)
		same(t, "Forward", y, e, want)
		want, _ = dct.Inverse(x)
		y, e = lap.Inverse(x, layout)
		same(t, "Inverse", y, e, want)
	}
}

// TestChannels compares with the chapter, and is the promise P8.5.
func TestChannels(t *testing.T) {
	random := rand.New(rand.NewSource(2))
	for i := range 120 {
		layout := layoutOf(random, 1+i%20)
		kept := slices.Clone(layout)
		x := sampleList(random, layout, 65536)
		was := slices.Clone(x)
		y, e := lap.Fold(x, layout)
		same(t, "Fold", y, e, foldedOf(t, x, layout, lift.Turn))
		y, e = lap.Unfold(y, layout)
		same(t, "Unfold of Fold", y, e, x)
		c, e := lap.Forward(x, layout)
		same(t, "Forward", c, e, blockwise(t, foldedOf(t, x, layout, lift.Turn), layout, dct.Forward))
		y, e = lap.Inverse(c, layout)
		same(t, "Inverse of Forward", y, e, x)
		same(t, "what was folded", x, api.OK, was)

		x = sampleList(random, layout, 1<<25)
		was = slices.Clone(x)
		y, e = lap.Unfold(x, layout)
		same(t, "Unfold", y, e, foldedOf(t, x, layout, lift.Back))
		same(t, "what was unfolded", x, api.OK, was)
		c = sampleList(random, layout, api.MaxCoef)
		was = slices.Clone(c)
		y, e = lap.Inverse(c, layout)
		same(t, "Inverse", y, e, foldedOf(t, blockwise(t, c, layout, dct.Inverse), layout, lift.Back))
		same(t, "what was inverted", c, api.OK, was)
		same(t, "the layout", layout, api.OK, kept)
	}
}

// TestLongestLayouts has the greatest numbers of all functions.
func TestLongestLayouts(t *testing.T) {
	random := rand.New(rand.NewSource(3))
	for _, layout := range [][]int{slices.Repeat([]int{128}, 512), slices.Repeat([]int{16}, 512), layoutOf(random, 512)} {
		n := startOf(layout, 512)
		x := slices.Repeat([]int{65536, -65536}, n/2)
		c, e := lap.Forward(x, layout)
		if e != api.OK {
			t.Fatalf("Forward: %d", e)
		}
		y, e := lap.Inverse(c, layout)
		same(t, "Inverse of Forward", y, e, x)
		c = slices.Repeat([]int{api.MaxCoef}, n)
		want, e := lap.Inverse(c, layout)
		same(t, "Inverse", want, e, foldedOf(t, blockwise(t, c, layout, dct.Inverse), layout, lift.Back))
		y, e = lap.Some(c, layout, 0, 512)
		same(t, "Some", y, e, want)
		if _, e := lap.Unfold(slices.Repeat([]int{1 << 25}, n), layout); e != api.OK {
			t.Errorf("Unfold: %d", e)
		}
		long := append(slices.Clone(layout), 16)
		for _, call := range calls() {
			y, e := call(make([]int, n+16), long)
			fails(t, "513 blocks", y, e, api.ErrArg)
		}
		y, e = lap.Some(make([]int, n+16), long, 0, 1)
		fails(t, "513 blocks", y, e, api.ErrArg)
		if from, to, e := lap.Own(long, 0); from != 0 || to != 0 || e != api.ErrArg {
			t.Errorf("Own of 513 blocks: %d, %d, %d", from, to, e)
		}
	}
}

func TestNoBlocks(t *testing.T) {
	for _, nothing := range [][]int{nil, {}} {
		for _, call := range calls() {
			x, e := call(nothing, nothing)
			same(t, "no blocks", x, e, nil)
			x, e = call([]int{1}, nothing)
			fails(t, "a sample without a block", x, e, api.ErrForm)
		}
		x, e := lap.Some(nothing, nothing, 0, 0)
		same(t, "no blocks", x, e, nil)
		x, e = lap.Some(nothing, nothing, 0, 1)
		fails(t, "a block of none", x, e, api.ErrNone)
		if from, to, e := lap.Own(nothing, 0); from != 0 || to != 0 || e != api.ErrNone {
			t.Errorf("Own: %d, %d, %d", from, to, e)
		}
	}
}

// TestZeros is the promise P8.8.
func TestZeros(t *testing.T) {
	random := rand.New(rand.NewSource(4))
	for n := range 20 {
		layout := layoutOf(random, n)
		zeros := make([]int, startOf(layout, n))
		for _, call := range calls() {
			x, e := call(zeros, layout)
			same(t, "zeros", x, e, zeros)
		}
		x, e := lap.Some(zeros, layout, 0, n)
		same(t, "zeros", x, e, zeros)
	}
}

// wrongLayouts are lists that are no layouts.
func wrongLayouts() [][]int {
	return [][]int{{0}, {-16}, {17}, {15}, {32}, {64}, {127}, {129}, {256}, {16, 0}, {128, 128, 8}, {16, math.MaxInt}, {math.MinInt, 16}, {math.MinInt, math.MinInt}, make([]int, 600)}
}

func TestErrors(t *testing.T) {
	random := rand.New(rand.NewSource(5))
	most := map[string]int{"Forward": 65536, "Inverse": api.MaxCoef, "Fold": 65536, "Unfold": 1 << 25}
	for name, call := range map[string]call{"Forward": lap.Forward, "Inverse": lap.Inverse, "Fold": lap.Fold, "Unfold": lap.Unfold} {
		most := most[name]
		for _, layout := range wrongLayouts() {
			for _, x := range [][]int{nil, make([]int, 16), {most + 1}} {
				y, e := call(x, layout)
				fails(t, name, y, e, api.ErrArg)
			}
		}
		for n := range 8 {
			layout := layoutOf(random, n)
			all := startOf(layout, n)
			for _, length := range []int{all + 1, all - 1, all + 16, all + 128, all - 16, 0} {
				if length == all || length < 0 {
					continue
				}
				x := make([]int, length)
				y, e := call(x, layout)
				fails(t, name, y, e, api.ErrForm)
				if length > 0 {
					x[random.Intn(length)] = most + 1
					y, e = call(x, layout)
					fails(t, name, y, e, api.ErrForm)
				}
			}
			if n == 0 {
				continue
			}
			for _, v := range outside(most) {
				for _, i := range []int{0, random.Intn(all), all - 1} {
					x := make([]int, all)
					x[i] = v
					y, e := call(x, layout)
					fails(t, name, y, e, api.ErrRange)
				}
			}
			if _, e := call(slices.Repeat([]int{most, -most}, all/2), layout); e != api.OK {
				t.Errorf("%s refuses the greatest numbers: %d", name, e)
			}
		}
	}
}

// TestMemory checks that a result is memory of its own.
func TestMemory(t *testing.T) {
	random := rand.New(rand.NewSource(6))
	some := func(x, layout []int) ([]int, api.Errno) { return lap.Some(x, layout, 0, len(layout)) }
	for _, call := range append(calls(), some) {
		for _, layout := range [][]int{{16}, {128, 16, 16}} {
			x := sampleList(random, layout, 1000)
			was := slices.Clone(x)
			first, _ := call(x, layout)
			kept := slices.Clone(first)
			second, _ := call(x, layout)
			clear(second)
			same(t, "the list", x, api.OK, was)
			clear(x)
			same(t, "the result", first, api.OK, kept)
		}
	}
}
