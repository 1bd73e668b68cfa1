package fixed_test

import (
	"math"
	"math/big"
	"math/rand"
	"testing"

	"shawm/api"
	"shawm/fixed"
)

// is fails unless a call returns that value without an error.
func is(t *testing.T, name string, v int, e api.Errno, want int) {
	t.Helper()
	if v != want || e != api.OK {
		t.Errorf("%s: %d, %d, want %d", name, v, e, want)
	}
}

// fails fails unless a call returns that error, and zero.
func fails(t *testing.T, name string, v int, e, want api.Errno) {
	t.Helper()
	if v != 0 || e != want {
		t.Errorf("%s: %d, %d, want the error %d", name, v, e, want)
	}
}

func TestFloorRoundExamples(t *testing.T) {
	cases := []struct{ a, b, floor, round int }{
		{-7, 2, -4, -3}, {7, 2, 3, 4}, {0, 1, 0, 0}, {0, 1 << 40, 0, 0},
		{5, 1, 5, 5}, {-5, 1, -5, -5}, {6, 3, 2, 2}, {-6, 3, -2, -2},
		{1, 2, 0, 1}, {-1, 2, -1, 0}, {-3, 2, -2, -1}, {3, 2, 1, 2},
		{1, 3, 0, 0}, {2, 3, 0, 1}, {-1, 3, -1, 0}, {-2, 3, -1, -1},
		{1 << 39, 1 << 40, 0, 1}, {1<<39 - 1, 1 << 40, 0, 0}, {-1 << 39, 1 << 40, -1, 0}, {-1<<39 - 1, 1 << 40, -1, -1},
		{1 << 60, 1, 1 << 60, 1 << 60}, {-1 << 60, 1, -1 << 60, -1 << 60},
		{1 << 60, 1 << 40, 1 << 20, 1 << 20}, {-1 << 60, 1 << 40, -1 << 20, -1 << 20},
		{1<<60 - 1, 2, 1<<59 - 1, 1 << 59}, {-1<<60 + 1, 2, -1 << 59, -1<<59 + 1},
	}
	for _, c := range cases {
		v, e := fixed.Floor(c.a, c.b)
		is(t, "Floor", v, e, c.floor)
		v, e = fixed.Round(c.a, c.b)
		is(t, "Round", v, e, c.round)
	}
}

func TestFloorRoundErrors(t *testing.T) {
	for _, call := range []func(a, b int) (int, api.Errno){fixed.Floor, fixed.Round} {
		for _, a := range []int{0, 7, -7, 1 << 60, 1<<60 + 1, math.MaxInt, math.MinInt} {
			for _, b := range []int{0, -1, -1 << 40, 1<<40 + 1, math.MaxInt, math.MinInt} {
				v, e := call(a, b)
				fails(t, "a wrong divisor", v, e, api.ErrArg)
			}
		}
		for _, a := range []int{1<<60 + 1, -1<<60 - 1, math.MaxInt, math.MinInt} {
			for _, b := range []int{1, 2, 3, 1 << 40} {
				v, e := call(a, b)
				fails(t, "a number out of range", v, e, api.ErrRange)
			}
		}
	}
}

// TestFloorRoundRanges is the promise P3.9, held against exact numbers.
func TestFloorRoundRanges(t *testing.T) {
	random := rand.New(rand.NewSource(1))
	for range 20000 {
		a := (random.Intn(1<<61+1) - 1<<60) >> random.Intn(61)
		b := random.Intn(1<<40)>>random.Intn(40) + 1
		if random.Intn(4) == 0 { // in the middle between two integers, or next to it
			b = 2 * (b/2 + 1)
			a = (a/(2*b)*2+1)*(b/2) + random.Intn(3) - 1
		}
		q, e := fixed.Floor(a, b)
		big1, big2 := new(big.Int).Mul(big.NewInt(int64(q)), big.NewInt(int64(b))), big.NewInt(int64(a))
		if big1.Cmp(big2) > 0 || big1.Add(big1, big.NewInt(int64(b))).Cmp(big2) <= 0 || e != api.OK {
			t.Errorf("Floor(%d, %d) = %d, %d", a, b, q, e)
		}
		r, e := fixed.Round(a, b)
		twice := new(big.Int).Mul(big.NewInt(2), new(big.Int).Sub(new(big.Int).Mul(big.NewInt(int64(r)), big.NewInt(int64(b))), big2))
		if twice.Cmp(big.NewInt(int64(b))) > 0 || twice.Cmp(big.NewInt(int64(-b))) <= 0 || e != api.OK {
			t.Errorf("Round(%d, %d) = %d, %d", a, b, r, e)
		}
	}
}

func TestClip(t *testing.T) {
	cases := []struct{ v, low, high, want int }{
		{5, 0, 10, 5}, {0, 0, 10, 0}, {10, 0, 10, 10}, {-1, 0, 10, 0}, {11, 0, 10, 10},
		{3, 7, 7, 7}, {7, 7, 7, 7}, {9, 7, 7, 7}, {-5, -9, -6, -6}, {-5, -9, -2, -5}, {-10, -9, -2, -9},
		{math.MaxInt, math.MinInt, math.MaxInt, math.MaxInt}, {math.MinInt, math.MinInt, math.MaxInt, math.MinInt},
		{math.MinInt, 0, 1, 0}, {math.MaxInt, 0, 1, 1}, {0, math.MinInt, math.MinInt, math.MinInt}, {0, math.MaxInt, math.MaxInt, math.MaxInt},
	}
	for _, c := range cases {
		v, e := fixed.Clip(c.v, c.low, c.high)
		is(t, "Clip", v, e, c.want)
	}
	for _, c := range cases {
		if c.low < c.high {
			v, e := fixed.Clip(c.v, c.high, c.low)
			fails(t, "Clip to nothing", v, e, api.ErrArg)
		}
	}
	v, e := fixed.Clip(5, 6, 5)
	fails(t, "Clip to nothing", v, e, api.ErrArg)
}
