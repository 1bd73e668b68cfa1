package fixed_test

import (
	"math"
	"math/big"
	"math/rand"
	"testing"

	"shawm/api"
	"shawm/fixed"
)

// power is x to that exponent.
func power(x, exponent int) *big.Int {
	return new(big.Int).Exp(big.NewInt(int64(x)), big.NewInt(int64(exponent)), nil)
}

// isRoot tells whether x is the greatest integer whose power is at most n.
func isRoot(x, n, exponent int) bool {
	return x >= 0 && power(x, exponent).Cmp(big.NewInt(int64(n))) <= 0 && power(x+1, exponent).Cmp(big.NewInt(int64(n))) > 0
}

// numbers are numbers from 0 to 2^62: small ones, powers of 2, squares, cubes, what is beside them, and others.
func numbers() []int {
	list := []int{1 << 62}
	for n := range 2000 {
		list = append(list, n)
	}
	for i := range 62 {
		list = append(list, 1<<i, 1<<i+1, 1<<(i+1)-1)
	}
	random := rand.New(rand.NewSource(2))
	for range 3000 {
		x, y := random.Intn(1<<31)>>random.Intn(31)+1, random.Intn(1664510)>>random.Intn(20)+1
		list = append(list, x*x-1, x*x, y*y*y-1, y*y*y, y*y*y+1, random.Intn(1<<62)>>random.Intn(62))
	}
	return list
}

func TestRootExamples(t *testing.T) {
	roots := map[int]int{24: 4, 0: 0, 1: 1, 3: 1, 4: 2, 25: 5, 1 << 62: 1 << 31, 1<<62 - 1: 1<<31 - 1}
	for n, want := range roots {
		v, e := fixed.Root(n)
		is(t, "Root", v, e, want)
	}
	cubes := map[int]int{26: 2, 0: 0, 1: 1, 7: 1, 8: 2, 27: 3, 1 << 60: 1 << 20, 1<<60 - 1: 1<<20 - 1, 1 << 62: 1664510}
	for n, want := range cubes {
		v, e := fixed.Cube(n)
		is(t, "Cube", v, e, want)
	}
}

// TestRoots is the promise P3.6.
func TestRoots(t *testing.T) {
	for _, n := range numbers() {
		if v, e := fixed.Root(n); e != api.OK || !isRoot(v, n, 2) {
			t.Errorf("Root(%d) = %d, %d", n, v, e)
		}
		if v, e := fixed.Cube(n); e != api.OK || !isRoot(v, n, 3) {
			t.Errorf("Cube(%d) = %d, %d", n, v, e)
		}
	}
}

func TestRootErrors(t *testing.T) {
	for _, n := range []int{-1, -8, 1<<62 + 1, math.MaxInt, math.MinInt} {
		v, e := fixed.Root(n)
		fails(t, "Root", v, e, api.ErrRange)
		v, e = fixed.Cube(n)
		fails(t, "Cube", v, e, api.ErrRange)
	}
}
