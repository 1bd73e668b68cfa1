package dct_test

import (
	"math/rand"
	"slices"
	"testing"

	"shawm/api"
	"shawm/dct"
)

// counts are how many pairs a row may have.
func counts() []int { return []int{1, 2, 4, 8, 16, 32, 64} }

// mixer is one of the functions of rows.
type mixer func(re, im []int) ([]int, []int, api.Errno)

// refuses fails unless a call returns that error, and no rows.
func refuses(t *testing.T, call mixer, re, im []int, want api.Errno) {
	t.Helper()
	a, b, e := call(re, im)
	if len(a) != 0 || len(b) != 0 || e != want {
		t.Errorf("%d and %d elements: %v, %v, %d, want the error %d", len(re), len(im), a, b, e, want)
	}
}

// TestOnePair is the promise P7.6, and that the row is new memory.
func TestOnePair(t *testing.T) {
	for _, call := range []mixer{dct.Mixed, dct.Unmixed} {
		re, im := []int{-7}, []int{1 << 20}
		a, b, e := call(re, im)
		if e != api.OK || !slices.Equal(a, []int{-7}) || !slices.Equal(b, []int{1 << 20}) {
			t.Fatalf("one pair: %v, %v, %d", a, b, e)
		}
		a[0], b[0] = 1, 2
		if re[0] != -7 || im[0] != 1<<20 {
			t.Error("the row shares memory with the lists")
		}
	}
}

func TestTwoPairs(t *testing.T) {
	// B is turned by 0; re and im are each turned by an eighth, as (p, q), and stand there as p and -q.
	re, im, e := dct.Mixed([]int{1000, 0}, []int{0, 1000})
	if e != api.OK || !slices.Equal(re, []int{707, 707}) || !slices.Equal(im, []int{707, -707}) {
		t.Errorf("Mixed: %v, %v, %d", re, im, e)
	}
	re, im, e = dct.Unmixed(re, im)
	if e != api.OK || !slices.Equal(re, []int{1000, 0}) || !slices.Equal(im, []int{0, 1000}) {
		t.Errorf("Unmixed: %v, %v, %d", re, im, e)
	}
}

func TestRows(t *testing.T) {
	random := rand.New(rand.NewSource(5))
	for _, m := range counts() {
		for range 40 {
			re, im := listOf(random, m, 1<<20), listOf(random, m, 1<<20)
			wasRe, wasIm := slices.Clone(re), slices.Clone(im)
			a, b, e := dct.Mixed(re, im)
			wantRe, wantIm := mixedOf(t, re, im)
			if e != api.OK || !slices.Equal(a, wantRe) || !slices.Equal(b, wantIm) {
				t.Fatalf("Mixed of %v, %v: %v, %v, %d, want %v, %v", re, im, a, b, e, wantRe, wantIm)
			}
			backRe, backIm, e := dct.Unmixed(a, b)
			if e != api.OK || !slices.Equal(backRe, wasRe) || !slices.Equal(backIm, wasIm) {
				t.Fatalf("Unmixed of Mixed of %v, %v: %v, %v, %d", re, im, backRe, backIm, e)
			}
			re, im = listOf(random, m, 1<<25), listOf(random, m, 1<<25)
			wasRe, wasIm = slices.Clone(re), slices.Clone(im)
			a, b, e = dct.Unmixed(re, im)
			wantRe, wantIm = unmixedOf(t, re, im)
			if e != api.OK || !slices.Equal(a, wantRe) || !slices.Equal(b, wantIm) {
				t.Fatalf("Unmixed of %v, %v: %v, %v, %d, want %v, %v", re, im, a, b, e, wantRe, wantIm)
			}
			if !slices.Equal(re, wasRe) || !slices.Equal(im, wasIm) {
				t.Fatal("Unmixed changed its lists")
			}
		}
	}
}

func TestGreatestRows(t *testing.T) {
	for _, m := range counts() {
		re, im := slices.Repeat([]int{1 << 20}, m), slices.Repeat([]int{-1 << 20}, m)
		a, b, e := dct.Mixed(re, im)
		if e != api.OK {
			t.Fatalf("Mixed of %d pairs: %d", m, e)
		}
		if x, y, e := dct.Unmixed(a, b); e != api.OK || !slices.Equal(x, re) || !slices.Equal(y, im) {
			t.Errorf("Unmixed of Mixed of %d pairs: %v, %v, %d", m, x, y, e)
		}
		re, im = slices.Repeat([]int{-1 << 25}, m), slices.Repeat([]int{1 << 25}, m)
		wantRe, wantIm := unmixedOf(t, re, im)
		if x, y, e := dct.Unmixed(re, im); e != api.OK || !slices.Equal(x, wantRe) || !slices.Equal(y, wantIm) {
			t.Errorf("Unmixed of %d pairs: %v, %v, %d", m, x, y, e)
		}
	}
}

func TestRowErrors(t *testing.T) {
	random := rand.New(rand.NewSource(6))
	for most, call := range map[int]mixer{1 << 20: dct.Mixed, 1 << 25: dct.Unmixed} {
		refuses(t, call, nil, nil, api.ErrArg)
		refuses(t, call, []int{1}, nil, api.ErrArg)
		refuses(t, call, nil, []int{1}, api.ErrArg)
		for n := range 200 {
			refuses(t, call, make([]int, n), make([]int, n+1), api.ErrArg)
			refuses(t, call, make([]int, 2*n+2), make([]int, n+1), api.ErrArg)
			if slices.Contains(counts(), n) {
				if _, _, e := call(make([]int, n), make([]int, n)); e != api.OK {
					t.Errorf("%d pairs: %d", n, e)
				}
				continue
			}
			refuses(t, call, make([]int, n), make([]int, n), api.ErrArg)
		}
		refuses(t, call, []int{most + 1}, []int{0, 0}, api.ErrArg)
		refuses(t, call, []int{0, 0, 0}, []int{0, most + 1, 0}, api.ErrArg)
		for _, m := range counts() {
			for _, v := range outside(most) {
				x := make([]int, m)
				x[random.Intn(m)] = v
				refuses(t, call, x, make([]int, m), api.ErrRange)
				refuses(t, call, make([]int, m), x, api.ErrRange)
			}
		}
	}
}

// TestRowMemory checks that the two lists of a result are memory of their own.
func TestRowMemory(t *testing.T) {
	for _, call := range []mixer{dct.Mixed, dct.Unmixed} {
		re, im := []int{5, -3, 1000, 70}, []int{1, 2, 3, 4}
		a, b, _ := call(re, im)
		kept := slices.Clone(b)
		_ = append(a[:0], 9, 9, 9, 9, 9, 9, 9, 9)
		clear(a[:cap(a)])
		if !slices.Equal(b, kept) || !slices.Equal(re, []int{5, -3, 1000, 70}) || !slices.Equal(im, []int{1, 2, 3, 4}) {
			t.Errorf("a change of a list of a result changes others: %v, %v, %v", b, re, im)
		}
	}
}
