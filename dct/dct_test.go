package dct_test

import (
	"math"
	"math/rand"
	"slices"
	"testing"

	"shawm/api"
	"shawm/dct"
	"shawm/lift"
)

// sizes are all sizes of a transform.
func sizes() []int { return []int{2, 4, 8, 16, 32, 64, 128} }

// turner is one of the functions that turn a pair.
type turner func(x, y, n, d int) (int, int, api.Errno)

// pairOf returns a turned pair, and stops the test if it cannot be turned.
func pairOf(t *testing.T, turn turner, x, y, n, d int) (int, int) {
	t.Helper()
	a, b, e := turn(x, y, n, d)
	if e != api.OK {
		t.Fatalf("(%d, %d) by %d/%d: %d", x, y, n, d, e)
	}
	return a, b
}

// mixedOf is the mixed row of the chapter.
func mixedOf(t *testing.T, re, im []int) ([]int, []int) {
	m := len(re)
	if m == 1 {
		return slices.Clone(re), slices.Clone(im)
	}
	var rows [2][2][]int
	for n := range m {
		rows[n%2][0], rows[n%2][1] = append(rows[n%2][0], re[n]), append(rows[n%2][1], im[n])
	}
	aRe, aIm := mixedOf(t, rows[0][0], rows[0][1])
	bRe, bIm := mixedOf(t, rows[1][0], rows[1][1])
	outRe, outIm := make([]int, m), make([]int, m)
	for k := range m / 2 {
		x, y := pairOf(t, lift.Turn, bRe[k], bIm[k], -k, m)
		p, q := pairOf(t, lift.Turn, aRe[k], x, -1, 8)
		outRe[k], outRe[k+m/2] = p, -q
		p, q = pairOf(t, lift.Turn, aIm[k], y, -1, 8)
		outIm[k], outIm[k+m/2] = p, -q
	}
	return outRe, outIm
}

// unmixedOf is the row whose mixed row this is.
func unmixedOf(t *testing.T, re, im []int) ([]int, []int) {
	m := len(re)
	if m == 1 {
		return slices.Clone(re), slices.Clone(im)
	}
	half := m / 2
	aRe, aIm, bRe, bIm := make([]int, half), make([]int, half), make([]int, half), make([]int, half)
	for k := range half {
		var x, y int
		aIm[k], y = pairOf(t, lift.Back, im[k], -im[k+half], -1, 8)
		aRe[k], x = pairOf(t, lift.Back, re[k], -re[k+half], -1, 8)
		bRe[k], bIm[k] = pairOf(t, lift.Back, x, y, -k, m)
	}
	aRe, aIm = unmixedOf(t, aRe, aIm)
	bRe, bIm = unmixedOf(t, bRe, bIm)
	var outRe, outIm []int
	for k := range half {
		outRe, outIm = append(outRe, aRe[k], bRe[k]), append(outIm, aIm[k], bIm[k])
	}
	return outRe, outIm
}

// transformOf is the transform of the chapter.
func transformOf(t *testing.T, x []int) []int {
	size := len(x)
	re, im := make([]int, size/2), make([]int, size/2)
	for n := range re {
		re[n], im[n] = pairOf(t, lift.Turn, x[2*n], x[size-1-2*n], -(8*n + 1), 16*size)
	}
	re, im = mixedOf(t, re, im)
	c := make([]int, size)
	for k := range re {
		a, b := pairOf(t, lift.Turn, re[k], im[k], -(8*k + 1), 16*size)
		c[2*k], c[size-1-2*k] = a, -b
	}
	return c
}

// untransformOf is the list whose transform this is.
func untransformOf(t *testing.T, c []int) []int {
	size := len(c)
	re, im := make([]int, size/2), make([]int, size/2)
	for k := range re {
		re[k], im[k] = pairOf(t, lift.Back, c[2*k], -c[size-1-2*k], -(8*k + 1), 16*size)
	}
	re, im = unmixedOf(t, re, im)
	x := make([]int, size)
	for n := range re {
		x[2*n], x[size-1-2*n] = pairOf(t, lift.Back, re[n], im[n], -(8*n + 1), 16*size)
	}
	return x
}

// listOf has n numbers from -most to most of all sizes, or some of the greatest ones alone.
func listOf(random *rand.Rand, n, most int) []int {
	x := make([]int, n)
	below := most >> random.Intn(12)
	extreme := random.Intn(4) == 0
	for i := range x {
		x[i] = random.Intn(2*below+1) - below
		if extreme {
			x[i] = most * (1 - 2*random.Intn(2))
		}
	}
	return x
}

// outside are numbers that are not from -most to most.
func outside(most int) []int { return []int{most + 1, -most - 1, math.MaxInt, math.MinInt} }

// root is the root of the sum of the squares.
func root(x []int) float64 {
	sum := 0.0
	for _, v := range x {
		sum += float64(v) * float64(v)
	}
	return math.Sqrt(sum)
}

func TestForwardExample(t *testing.T) {
	if c, e := dct.Forward([]int{1000, 0}); e != api.OK || !slices.Equal(c, []int{924, 383}) {
		t.Errorf("Forward: %v, %d", c, e)
	}
	if x, e := dct.Inverse([]int{924, 383}); e != api.OK || !slices.Equal(x, []int{1000, 0}) {
		t.Errorf("Inverse: %v, %d", x, e)
	}
}

// TestForwardOfZeros also holds for the way back.
func TestForwardOfZeros(t *testing.T) {
	for _, size := range sizes() {
		zeros := make([]int, size)
		c, e := dct.Forward(zeros)
		x, f := dct.Inverse(zeros)
		if e != api.OK || !slices.Equal(c, zeros) || f != api.OK || !slices.Equal(x, zeros) {
			t.Errorf("%d zeros: %v, %d, %v, %d", size, c, e, x, f)
		}
	}
}

func TestForward(t *testing.T) {
	random := rand.New(rand.NewSource(1))
	for _, size := range sizes() {
		for range 40 {
			x := listOf(random, size, 1<<20)
			was := slices.Clone(x)
			c, e := dct.Forward(x)
			if want := transformOf(t, x); e != api.OK || !slices.Equal(c, want) {
				t.Fatalf("Forward of %v: %v, %d, want %v", x, c, e, want)
			}
			back, e := dct.Inverse(c)
			if e != api.OK || !slices.Equal(back, was) {
				t.Fatalf("Inverse of %v: %v, %d, want %v", c, back, e, was)
			}
			if !slices.Equal(x, was) {
				t.Fatal("Forward changed its list")
			}
		}
	}
}

func TestInverse(t *testing.T) {
	random := rand.New(rand.NewSource(2))
	for _, size := range sizes() {
		for range 40 {
			c := listOf(random, size, 1<<25)
			was := slices.Clone(c)
			x, e := dct.Inverse(c)
			if want := untransformOf(t, c); e != api.OK || !slices.Equal(x, want) {
				t.Fatalf("Inverse of %v: %v, %d, want %v", c, x, e, want)
			}
			if !slices.Equal(c, was) {
				t.Fatal("Inverse changed its list")
			}
		}
	}
}

// TestGreatest has lists all of whose numbers are the greatest ones, so that whole sums of them come together.
func TestGreatest(t *testing.T) {
	for _, size := range sizes() {
		for _, signs := range [][2]int{{1, 1}, {-1, -1}, {1, -1}} {
			x := slices.Repeat([]int{signs[0] << 20, signs[1] << 20}, size/2)
			c, e := dct.Forward(x)
			if e != api.OK {
				t.Fatalf("Forward of %v: %d", x, e)
			}
			if back, e := dct.Inverse(c); e != api.OK || !slices.Equal(back, x) {
				t.Errorf("Inverse of Forward of %v: %v, %d", x, back, e)
			}
			c = slices.Repeat([]int{signs[0] << 25, signs[1] << 25}, size/2)
			if x, e := dct.Inverse(c); e != api.OK || !slices.Equal(x, untransformOf(t, c)) {
				t.Errorf("Inverse of %v: %v, %d", c, x, e)
			}
		}
	}
}

// TestPower is the promise P7.5, and that the transform is near to the sums of the chapter.
func TestPower(t *testing.T) {
	random := rand.New(rand.NewSource(3))
	for _, size := range sizes() {
		for range 20 {
			x := listOf(random, size, 1<<15)
			c, e := dct.Forward(x)
			if e != api.OK {
				t.Fatalf("Forward of %v: %d", x, e)
			}
			if d := math.Abs(root(x) - root(c)); d > float64(16*size+64) {
				t.Errorf("the root of %v changes by %f", x, d)
			}
			for k, v := range c {
				sum := 0.0
				for n, w := range x {
					sum += float64(w) * math.Cos(math.Pi*float64((2*n+1)*(2*k+1))/float64(4*size))
				}
				sum *= math.Sqrt(2 / float64(size))
				if math.Abs(sum-float64(v)) > 16 {
					t.Errorf("element %d of the transform of %v is %d, not near to %f", k, x, v, sum)
				}
			}
		}
	}
}

func TestListErrors(t *testing.T) {
	random := rand.New(rand.NewSource(4))
	for most, call := range map[int]func([]int) ([]int, api.Errno){1 << 20: dct.Forward, 1 << 25: dct.Inverse} {
		refused := func(x []int, want api.Errno) {
			t.Helper()
			if y, e := call(x); len(y) != 0 || e != want {
				t.Errorf("of %d elements: %v, %d, want the error %d", len(x), y, e, want)
			}
		}
		refused(nil, api.ErrArg)
		for n := range 300 {
			if slices.Contains(sizes(), n) {
				if _, e := call(make([]int, n)); e != api.OK {
					t.Errorf("of %d elements: %d", n, e)
				}
				continue
			}
			refused(make([]int, n), api.ErrArg)
			if n > 0 {
				refused(append(make([]int, n-1), most+1), api.ErrArg)
			}
		}
		refused(make([]int, 1<<16), api.ErrArg)
		for _, size := range sizes() {
			for _, v := range outside(most) {
				for _, i := range []int{0, size / 2, random.Intn(size), size - 1} {
					x := make([]int, size)
					x[i] = v
					refused(x, api.ErrRange)
				}
			}
		}
	}
}

// TestListMemory checks that a result is memory of its own.
func TestListMemory(t *testing.T) {
	for _, call := range []func([]int) ([]int, api.Errno){dct.Forward, dct.Inverse} {
		x := []int{5, -3, 1000, 70}
		first, _ := call(x)
		kept := slices.Clone(first)
		second, _ := call(x)
		clear(second)
		clear(x)
		if !slices.Equal(first, kept) {
			t.Errorf("the result became %v", first)
		}
	}
}

func TestTurns(t *testing.T) {
	want := map[int]int{2: 2, 4: 7, 8: 20, 16: 52, 32: 128, 64: 304, 128: 704}
	for n := -300; n <= 300; n++ {
		turns, e := dct.Turns(n)
		if want[n] > 0 && (turns != want[n] || e != api.OK) || want[n] == 0 && (turns != 0 || e != api.ErrArg) {
			t.Errorf("Turns of %d: %d, %d", n, turns, e)
		}
	}
	for _, n := range []int{512, 1024, 1 << 32, 1 << 62, math.MaxInt, math.MinInt} {
		if turns, e := dct.Turns(n); turns != 0 || e != api.ErrArg {
			t.Errorf("Turns of %d: %d, %d", n, turns, e)
		}
	}
}
