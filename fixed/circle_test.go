package fixed_test

import (
	"math"
	"testing"

	"shawm/api"
	"shawm/fixed"
)

const turn = 16384 // the greatest d, and what stands for 1

// nearest is the integer that is nearest to 16384 v; it fails if a float cannot tell which one that is.
func nearest(t *testing.T, v float64) int {
	t.Helper()
	w := turn * v
	if math.Abs(w-math.Floor(w)-0.5) < 1e-7 {
		t.Fatalf("%v is too near to the middle", w)
	}
	return int(math.Floor(w + 0.5))
}

// divisors are the powers of 2 from 1 to 16384.
func divisors() []int {
	var list []int
	for d := 1; d <= turn; d *= 2 {
		list = append(list, d)
	}
	return list
}

func TestCircleExamples(t *testing.T) {
	cases := []struct{ n, d, sin, cos int }{
		{1, 8, 11585, 11585}, {1, 4, 16384, 0}, {0, 1, 0, 16384}, {1, 1, 0, 16384}, {1, 2, 0, -16384}, {3, 4, -16384, 0},
		{3, 8, 11585, -11585}, {5, 8, -11585, -11585}, {7, 8, -11585, 11585}, {-1, 8, -11585, 11585}, {-1, 4, -16384, 0}, {-1, 2, 0, -16384},
		{1, 16, 6270, 15137}, {1, turn, 6, 16384}, {-1, turn, -6, 16384}, {turn / 4, turn, 16384, 0}, {turn/4 + 1, turn, 16384, -6},
		{1 << 40, 1, 0, 16384}, {-1 << 40, 1, 0, 16384}, {1 << 40, turn, 0, 16384}, {-1 << 40, turn, 0, 16384},
		{1<<40 - 1, 8, -11585, 11585}, {1 - 1<<40, 8, 11585, 11585}, {1<<40 - 1, turn, -6, 16384}, {1 - 1<<40, turn, 6, 16384},
	}
	for _, c := range cases {
		v, e := fixed.Sin(c.n, c.d)
		is(t, "Sin", v, e, c.sin)
		v, e = fixed.Cos(c.n, c.d)
		is(t, "Cos", v, e, c.cos)
	}
}

// TestCircleNearest compares all angles of three turns around 0, with each d.
func TestCircleNearest(t *testing.T) {
	for _, d := range divisors() {
		for n := -d - d/2; n <= d+d/2; n++ {
			angle := 2 * math.Pi * float64(n) / float64(d)
			v, e := fixed.Sin(n, d)
			is(t, "Sin", v, e, nearest(t, math.Sin(angle)))
			v, e = fixed.Cos(n, d)
			is(t, "Cos", v, e, nearest(t, math.Cos(angle)))
		}
	}
}

// TestCircle is the promise P3.7.
func TestCircle(t *testing.T) {
	for _, d := range divisors() {
		for n := range d + 1 {
			s, e := fixed.Sin(n, d)
			c, f := fixed.Cos(n, d)
			if off := s*s + c*c - 1<<28; e != api.OK || f != api.OK || off > 1<<15 || off < -1<<15 {
				t.Errorf("%d / %d: %d, %d, off by %d", n, d, s, c, off)
			}
			if d >= 4 {
				v, e := fixed.Sin(n+d/4, d)
				is(t, "Sin of a quarter more", v, e, c)
			}
			v, e := fixed.Sin(-n, d)
			is(t, "Sin of the negative angle", v, e, -s)
			v, e = fixed.Cos(-n, d)
			is(t, "Cos of the negative angle", v, e, c)
			v, e = fixed.Sin(n-1<<40/d*d+d, d)
			is(t, "Sin of many turns back", v, e, s)
			v, e = fixed.Cos(n+1<<40/d*d-d, d)
			is(t, "Cos of many turns more", v, e, c)
		}
	}
}

func TestHalf(t *testing.T) {
	v, e := fixed.Half(1, 8)
	is(t, "Half(1, 8)", v, e, 6786)
	v, e = fixed.Half(-1, 8)
	is(t, "Half(-1, 8)", v, e, -6786)
	for _, d := range divisors() {
		for n := -d / 8; n <= d/8; n++ {
			v, e := fixed.Half(n, d)
			is(t, "Half", v, e, nearest(t, math.Tan(math.Pi*float64(n)/float64(d))))
			w, e := fixed.Half(-n, d)
			is(t, "Half of the negative angle", w, e, -v)
		}
		for _, n := range []int{d/8 + 1, -d/8 - 1, d, -d, d + 1, 1 << 40, -1 << 40, 1<<40 + 1, -1<<40 - 1, 1 << 61, -1 << 61, math.MaxInt, math.MinInt} {
			v, e := fixed.Half(n, d)
			fails(t, "Half of more than an eighth", v, e, api.ErrRange)
		}
	}
}

func TestAngleErrors(t *testing.T) {
	for _, call := range []func(n, d int) (int, api.Errno){fixed.Sin, fixed.Cos, fixed.Half} {
		for _, d := range []int{0, -1, -2, -16384, 3, 5, 6, 7, 12, 100, 16383, 16385, 24576, 32768, 1 << 40, 1 << 62, math.MaxInt, math.MinInt} {
			for _, n := range []int{0, 1, -1, 1 << 40, 1<<40 + 1, math.MaxInt, math.MinInt} {
				v, e := call(n, d)
				fails(t, "a wrong divisor", v, e, api.ErrArg)
			}
		}
		for _, d := range divisors() {
			for _, n := range []int{1<<40 + 1, -1<<40 - 1, 1 << 50, 1 << 62, math.MaxInt, math.MinInt} {
				v, e := call(n, d)
				fails(t, "an angle out of range", v, e, api.ErrRange)
			}
		}
	}
}
