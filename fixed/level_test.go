package fixed_test

import (
	"math"
	"math/big"
	"slices"
	"testing"

	"shawm/api"
	"shawm/fixed"
)

// logOf follows the chapter word for word, with numbers of any length.
func logOf(n int) int {
	e := big.NewInt(int64(n)).BitLen() - 1
	m := new(big.Int).Lsh(big.NewInt(int64(n)), 30)
	m.Rsh(m, uint(e)) // exact for e up to 30, and floor beyond
	f := 0
	for range 8 {
		m.Rsh(m.Mul(m, m), 30)
		f *= 2
		if m.BitLen() > 31 {
			m.Rsh(m, 1)
			f++
		}
	}
	return 256*e + f
}

// expOf follows the chapter word for word.
func expOf(k int) int {
	m, c := big.NewInt(1<<30), big.NewInt(1<<31)
	for i := 1; i <= 8; i++ {
		c.Sqrt(c.Lsh(c, 30))
		if k%256>>(8-i)&1 == 1 {
			m.Rsh(m.Mul(m, c), 30)
		}
	}
	m.Lsh(m, uint(k/256))
	return int(m.Rsh(m, 30).Int64())
}

func TestLogExamples(t *testing.T) {
	for n, want := range map[int]int{1: 0, 3: 405, 2: 256, 17: 1046, 65: 1541, 1024: 2560, 1 << 62: 62 * 256} {
		v, e := fixed.Log(n)
		is(t, "Log", v, e, want)
	}
	for i := range 63 {
		v, e := fixed.Log(1 << i)
		is(t, "Log of a power of 2", v, e, 256*i)
	}
	for _, n := range []int{0, -1, -1024, 1<<62 + 1, math.MaxInt, math.MinInt} {
		v, e := fixed.Log(n)
		fails(t, "Log", v, e, api.ErrRange)
	}
}

func TestLog(t *testing.T) {
	list := slices.DeleteFunc(numbers(), func(n int) bool { return n == 0 })
	slices.Sort(list)
	last := 0
	for _, n := range list {
		v, e := fixed.Log(n)
		is(t, "Log", v, e, logOf(n))
		if v < last {
			t.Errorf("Log(%d) falls to %d", n, v)
		}
		last = v
		if n <= 1<<30 {
			w, e := fixed.Log(2 * n)
			is(t, "Log of the double", w, e, v+256)
		}
		if exact := 256 * math.Log2(float64(n)); float64(v) > exact+0.01 || float64(v) < exact-1.01 {
			t.Errorf("Log(%d) = %d, far from %v", n, v, exact)
		}
	}
}

func TestExp(t *testing.T) {
	for k, want := range map[int]int{0: 1, 256: 2, 128: 1, 640: 5, 255: 1, 511: 3, 15616: 1 << 61} {
		v, e := fixed.Exp(k)
		is(t, "Exp", v, e, want)
	}
	last := 0
	for k := range 15872 {
		v, e := fixed.Exp(k)
		is(t, "Exp", v, e, expOf(k))
		if v < last {
			t.Errorf("Exp(%d) falls to %d", k, v)
		}
		last = v
		if k%256 == 0 {
			is(t, "Exp of a multiple of 256", v, e, 1<<(k/256))
		}
	}
	for _, k := range []int{-1, -256, 15872, 1 << 40, math.MaxInt, math.MinInt} {
		v, e := fixed.Exp(k)
		fails(t, "Exp", v, e, api.ErrRange)
	}
}

func TestStep(t *testing.T) {
	for q, want := range map[int]int{0: 16, 1: 19, 2: 22, 3: 26, 4: 32, 5: 38, 6: 45, 7: 53, 92: 1 << 27, 95: 225738752} {
		v, e := fixed.Step(q)
		is(t, "Step", v, e, want)
	}
	last := 0
	for q := range api.MaxScale + 1 {
		v, e := fixed.Step(q)
		is(t, "Step", v, e, []int{4096, 4871, 5793, 6889}[q%4]*(1<<(q/4))/256)
		if v <= last || math.Abs(float64(v)-16*math.Exp2(float64(q)/4)) > 1+float64(v)/10000 {
			t.Errorf("Step(%d) = %d, after %d", q, v, last)
		}
		last = v
	}
	for _, q := range []int{-1, -4, 96, 97, 1000, math.MaxInt, math.MinInt} {
		v, e := fixed.Step(q)
		fails(t, "Step", v, e, api.ErrRange)
	}
}

// TestRising is the promise P3.8 for roots; the tests above have it for the others.
func TestRising(t *testing.T) {
	list := numbers()
	slices.Sort(list)
	root, cube := 0, 0
	for _, n := range list {
		r, e := fixed.Root(n)
		c, f := fixed.Cube(n)
		if r < root || c < cube || e != api.OK || f != api.OK {
			t.Errorf("Root(%d) = %d, Cube(%d) = %d, after %d, %d", n, r, n, c, root, cube)
		}
		root, cube = r, c
	}
}
