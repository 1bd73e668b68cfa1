package lift_test

import (
	"math"
	"math/rand"
	"testing"

	"shawm/api"
	"shawm/lift"
)

// divisors are all d of turns.
func divisors() []int {
	return []int{1, 2, 4, 8, 16, 32, 64, 128, 256, 512, 1024, 2048}
}

// angle is the sine and the tangent of the half of r / d of a full turn, times 16384, rounded.
func angle(r, d int) (a, b int) {
	turn := 2 * math.Pi * float64(r) / float64(d)
	return int(math.Round(16384 * math.Tan(turn/2))), int(math.Round(16384 * math.Sin(turn)))
}

// rounded is round(v / 16384).
func rounded(v int) int {
	v = 2*v + 16384
	q := v / 32768
	if q*32768 > v {
		q--
	}
	return q
}

// partsOf are the quarters of a turn, and the angle that is left, as the chapter says it.
func partsOf(n, d int) (q, a, b int) {
	t := (n%d + d) % d
	for q = 0; !(8*t-2*q*d > -d && 8*t-2*q*d <= d); {
		q++
	}
	a, b = angle(8*t-2*q*d, 8*d)
	return q, a, b
}

func turned(x, y, n, d int) (int, int) {
	q, a, b := partsOf(n, d)
	for range q {
		x, y = -y, x
	}
	x -= rounded(a * y)
	y += rounded(b * x)
	x -= rounded(a * y)
	return x, y
}

func turnedBack(x, y, n, d int) (int, int) {
	q, a, b := partsOf(n, d)
	x += rounded(a * y)
	y -= rounded(b * x)
	x += rounded(a * y)
	for range q {
		x, y = y, -x
	}
	return x, y
}

// call is one of the functions of two numbers and an angle.
type call func(x, y, n, d int) (int, int, api.Errno)

// is fails unless a call returns that pair without an error.
func is(t *testing.T, name string, x, y int, e api.Errno, wantX, wantY int) {
	t.Helper()
	if x != wantX || y != wantY || e != api.OK {
		t.Errorf("%s: %d, %d, %d, want %d, %d", name, x, y, e, wantX, wantY)
	}
}

// fails fails unless a call returns that error, and zeros.
func fails(t *testing.T, name string, x, y int, e, want api.Errno) {
	t.Helper()
	if x != 0 || y != 0 || e != want {
		t.Errorf("%s: %d, %d, %d, want the error %d", name, x, y, e, want)
	}
}

// number is a number from -most to most of any size.
func number(random *rand.Rand, most int) int {
	most >>= random.Intn(32)
	return random.Intn(2*most+1) - most
}

// angles calls with all angles of all d, and with some that are more than a full turn.
func angles(random *rand.Rand, call func(n, d int)) {
	for _, d := range divisors() {
		for n := range d {
			call(n, d)
			call(n-d, d)
		}
		for range 50 {
			call(random.Intn(1<<41+1)-1<<40, d)
		}
		call(1<<40, d)
		call(-1<<40, d)
	}
}

func TestTurnExamples(t *testing.T) {
	for _, c := range []struct{ x, y, n, d, wantX, wantY int }{
		{3, 5, 1, 4, -5, 3}, {1000, 0, 1, 8, 707, 707}, {1000, 0, -1, 8, 707, -707}, {0, 0, 3, 32, 0, 0}, {3, 5, 0, 1, 3, 5},
		{3, 5, 7, 1, 3, 5}, {3, 5, 1, 2, -3, -5}, {3, 5, -1, 4, 5, -3}, {3, 5, 3, 4, 5, -3}, {3, 5, 1 << 40, 2048, 3, 5},
		{1 << 30, -1 << 30, 1, 4, 1 << 30, 1 << 30},
		// A product in the middle between two integers is rounded up on both sides of 0.
		{0, 4096, 1, 8, -2896, 2896}, {0, -4096, 1, 8, 2896, -2897},
	} {
		if x, y := turned(c.x, c.y, c.n, c.d); x != c.wantX || y != c.wantY {
			t.Fatalf("the test's own turn of %v is %d, %d", c, x, y)
		}
		x, y, e := lift.Turn(c.x, c.y, c.n, c.d)
		is(t, "Turn", x, y, e, c.wantX, c.wantY)
		x, y, e = lift.Back(c.wantX, c.wantY, c.n, c.d)
		is(t, "Back", x, y, e, c.x, c.y)
	}
}

// TestTurn compares with the chapter, for all angles, and is the promise P6.4 for Turn and Back.
func TestTurn(t *testing.T) {
	random := rand.New(rand.NewSource(3))
	angles(random, func(n, d int) {
		for i := range 6 {
			x, y := number(random, 1<<30), number(random, 1<<30)
			if i == 0 {
				x, y = 1<<30-x&1<<31, 1<<30-y&1<<31
			}
			wantX, wantY := turned(x, y, n, d)
			p, q, e := lift.Turn(x, y, n, d)
			is(t, "Turn", p, q, e, wantX, wantY)
			p, q, e = lift.Back(p, q, n, d)
			is(t, "Back of Turn", p, q, e, x, y)
		}
	})
}

// TestBack compares with the chapter, for all angles, and is the promise P6.4 for Back and Turn.
func TestBack(t *testing.T) {
	random := rand.New(rand.NewSource(4))
	angles(random, func(n, d int) {
		for i := range 6 {
			x, y := number(random, 1<<32), number(random, 1<<32)
			if i == 0 {
				x, y = 1<<32-x&1<<33, 1<<32-y&1<<33
			}
			wantX, wantY := turnedBack(x, y, n, d)
			p, q, e := lift.Back(x, y, n, d)
			is(t, "Back", p, q, e, wantX, wantY)
			back, up, e := lift.Turn(p, q, n, d)
			if max(p, -p, q, -q) > 1<<30 {
				fails(t, "Turn out of range", back, up, e, api.ErrRange)
			} else {
				is(t, "Turn of Back", back, up, e, x, y)
			}
		}
	})
}

func TestTurnErrors(t *testing.T) {
	for most, call := range map[int]call{1 << 30: lift.Turn, 1 << 32: lift.Back} {
		for _, d := range []int{0, -1, 3, 6, 2047, 2049, 4096, -8, 1 << 40, math.MaxInt, math.MinInt} {
			for _, n := range []int{0, 1, 1<<40 + 1, math.MinInt} {
				for _, x := range []int{5, most + 1, math.MinInt} {
					p, q, e := call(x, -x, n, d)
					fails(t, "a wrong divisor", p, q, e, api.ErrArg)
				}
			}
		}
		for _, d := range divisors() {
			for _, v := range []int{most + 1, -most - 1, math.MaxInt, math.MinInt} {
				p, q, e := call(v, 0, 1, d)
				fails(t, "x out of range", p, q, e, api.ErrRange)
				p, q, e = call(0, v, 0, d)
				fails(t, "y out of range", p, q, e, api.ErrRange)
			}
			for _, n := range []int{1<<40 + 1, -1<<40 - 1, math.MaxInt, math.MinInt} {
				p, q, e := call(1, 2, n, d)
				fails(t, "an angle out of range", p, q, e, api.ErrRange)
			}
			for _, x := range []int{most, -most} {
				if _, _, e := call(x, x, 1, d); e != api.OK {
					t.Errorf("%d is refused: %d", x, e)
				}
			}
		}
	}
}

// TestQuarters is the promise P6.5.
func TestQuarters(t *testing.T) {
	random := rand.New(rand.NewSource(5))
	for _, d := range divisors() {
		for quarters := -9; quarters <= 9; quarters++ {
			if quarters*d%4 != 0 {
				continue
			}
			x, y := number(random, 1<<30), number(random, 1<<30)
			wantX, wantY := x, y
			for range (quarters%4 + 4) % 4 {
				wantX, wantY = -wantY, wantX
			}
			p, q, e := lift.Turn(x, y, quarters*d/4, d)
			is(t, "a turn by quarters", p, q, e, wantX, wantY)
			p, q, e = lift.Back(wantX, wantY, quarters*d/4, d)
			is(t, "a turn back by quarters", p, q, e, x, y)
		}
	}
}

// TestNear is the promise P6.6; it also holds a turned pair against the place where it should be.
func TestNear(t *testing.T) {
	random := rand.New(rand.NewSource(6))
	angles(random, func(n, d int) {
		for i := range 8 {
			x, y := number(random, 1<<20), number(random, 1<<20)
			if i == 0 {
				x, y = 1<<20-x&1<<21, 1<<20-y&1<<21
			}
			p, q, e := lift.Turn(x, y, n, d)
			before, after := math.Hypot(float64(x), float64(y)), math.Hypot(float64(p), float64(q))
			if math.Abs(after-before) > 4+before/4096 || e != api.OK {
				t.Errorf("Turn(%d, %d, %d, %d) = %d, %d, %d: from %v to %v", x, y, n, d, p, q, e, before, after)
			}
			sin, cos := math.Sincos(2 * math.Pi * float64(n%d) / float64(d))
			wrong := math.Hypot(float64(x)*cos-float64(y)*sin-float64(p), float64(x)*sin+float64(y)*cos-float64(q))
			if wrong > 4+before/4096 {
				t.Errorf("Turn(%d, %d, %d, %d) = %d, %d: off by %v", x, y, n, d, p, q, wrong)
			}
		}
	})
}

// TestMid is the promise P6.7, and P6.4 for Mid and Sides.
func TestMid(t *testing.T) {
	random := rand.New(rand.NewSource(7))
	pairs := [][2]int{{7, 4}, {4, 7}, {0, 0}, {-1, 0}, {0, -1}, {1 << 30, 1 << 30}, {1 << 30, -1 << 30}, {-1 << 30, 1 << 30}, {-1 << 30, -1 << 30}, {1<<30 - 1, -1 << 30}}
	for range 2000 {
		pairs = append(pairs, [2]int{number(random, 1<<30), number(random, 1<<30)})
	}
	for _, p := range pairs {
		l, r := p[0], p[1]
		m, s, e := lift.Mid(l, r)
		is(t, "Mid", m, s, e, int(math.Floor(float64(l+r)/2)), l-r)
		a, b, e := lift.Sides(m, s)
		is(t, "Sides of Mid", a, b, e, l, r)
	}
	m, s, e := lift.Mid(7, 4)
	is(t, "Mid(7, 4)", m, s, e, 5, 3)
	m, s, e = lift.Mid(4, 7)
	is(t, "Mid(4, 7)", m, s, e, 5, -3)
	for _, v := range []int{1<<30 + 1, -1<<30 - 1, math.MaxInt, math.MinInt} {
		m, s, e := lift.Mid(v, 0)
		fails(t, "Mid out of range", m, s, e, api.ErrRange)
		m, s, e = lift.Mid(0, v)
		fails(t, "Mid out of range", m, s, e, api.ErrRange)
	}
}

func TestSides(t *testing.T) {
	random := rand.New(rand.NewSource(8))
	pairs := [][2]int{{5, 3}, {5, -3}, {0, -1}, {0, 1}, {1 << 32, 1 << 32}, {1 << 32, -1 << 32}, {-1 << 32, 1 << 32}, {-1 << 32, -1 << 32}, {-1 << 32, -1<<32 + 1}}
	for range 2000 {
		pairs = append(pairs, [2]int{number(random, 1<<32), number(random, 1<<32)})
	}
	for _, p := range pairs {
		m, s := p[0], p[1]
		r := m - int(math.Floor(float64(s)/2))
		l, other, e := lift.Sides(m, s)
		is(t, "Sides", l, other, e, r+s, r)
	}
	for _, v := range []int{1<<32 + 1, -1<<32 - 1, math.MaxInt, math.MinInt} {
		l, r, e := lift.Sides(v, 0)
		fails(t, "Sides out of range", l, r, e, api.ErrRange)
		l, r, e = lift.Sides(0, v)
		fails(t, "Sides out of range", l, r, e, api.ErrRange)
	}
}
