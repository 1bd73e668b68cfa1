package stereo_test

import (
	"math"
	"math/rand"
	"slices"
	"testing"

	"shawm/api"
	"shawm/lift"
	"shawm/stereo"
)

// choices are some of the choices of so many bands: none, all, and any.
func choices(random *rand.Rand, n int) [][]bool {
	list := [][]bool{make([]bool, n), slices.Repeat([]bool{true}, n)}
	for range 4 {
		mid := make([]bool, n)
		for band := range mid {
			mid[band] = random.Intn(2) == 0
		}
		list = append(list, mid)
	}
	return list
}

// TestCouple is the promise P13.5 too.
func TestCouple(t *testing.T) {
	random := rand.New(rand.NewSource(4))
	for _, widths := range partitions(random) {
		for _, mid := range choices(random, len(widths)) {
			for _, c := range samples(random) {
				var wantA, wantB []int
				l, r := cut(c.l, widths), cut(c.r, widths)
				for band := range widths {
					a, b := l[band], r[band]
					if mid[band] {
						a, b = coupled(t, a, b)
					}
					wantA, wantB = append(wantA, a...), append(wantB, b...)
				}
				a, b, e := stereo.Couple(c.l, c.r, widths, mid)
				is(t, "the middles", a, e, wantA)
				is(t, "the differences", b, e, wantB)
				gotL, gotR, e := stereo.Part(a, b, widths, mid)
				is(t, "the left one again", gotL, e, c.l)
				is(t, "the right one again", gotR, e, c.r)
			}
		}
	}
}

// TestPart has numbers far beyond those that Couple gives.
func TestPart(t *testing.T) {
	random := rand.New(rand.NewSource(5))
	for _, widths := range partitions(random) {
		for _, mid := range choices(random, len(widths)) {
			a, b := ofSize(random, 1<<23), ofSize(random, 1<<23>>random.Intn(23))
			a[0], b[0], a[127], b[127] = 1<<23, -1<<23, -1<<23, 1<<23
			var wantL, wantR []int
			as, bs := cut(a, widths), cut(b, widths)
			for band := range widths {
				for i := range as[band] {
					l, r := as[band][i], bs[band][i]
					if mid[band] {
						l, r, _ = lift.Sides(l, r)
					}
					wantL, wantR = append(wantL, l), append(wantR, r)
				}
			}
			l, r, e := stereo.Part(a, b, widths, mid)
			is(t, "the left one", l, e, wantL)
			is(t, "the right one", r, e, wantR)
		}
	}
}

// outcome is what a call returned: how many elements, and the error.
type outcome struct {
	elements int
	e        api.Errno
}

// calls are all functions; those that take no choice pay no regard to it.
func calls(l, r, widths []int, mid []bool) map[string]outcome {
	chosen, e1 := stereo.Choose(l, r, widths)
	a, b, e2 := stereo.Couple(l, r, widths, mid)
	x, y, e3 := stereo.Part(l, r, widths, mid)
	gains, e4 := stereo.Gains(l, r, widths)
	cross, e5 := stereo.Cross(l, r, widths)
	return map[string]outcome{
		"Choose": {len(chosen), e1}, "Couple": {len(a) + len(b), e2}, "Part": {len(x) + len(y), e3}, "Gains": {len(gains), e4}, "Cross": {len(cross), e5},
	}
}

// fail fails unless all functions return that error, and nothing else.
func fail(t *testing.T, l, r, widths []int, mid []bool, want api.Errno, names ...string) {
	t.Helper()
	for name, got := range calls(l, r, widths, mid) {
		if len(names) > 0 && !slices.Contains(names, name) {
			continue
		}
		if want == api.OK && got.e != api.OK || want != api.OK && (got != outcome{0, want}) {
			t.Errorf("%s: %v, want %d", name, got, want)
		}
	}
}

// badLists are no lists of 128, some of whose elements are no coefficients.
func badLists() [][]int {
	huge := all(math.MaxInt)
	return [][]int{nil, {}, {1}, {math.MinInt}, make([]int, 127), huge[:127], append(slices.Clone(huge), 1), make([]int, 129), make([]int, 256), make([]int, 1<<16)}
}

func TestNoWidths(t *testing.T) {
	for _, widths := range noPartitions() {
		mids := [][]bool{nil, {true}, make([]bool, len(widths)), make([]bool, len(widths)+1)}
		for _, mid := range mids {
			for _, l := range append(badLists(), all(5), all(math.MinInt)) {
				fail(t, l, all(5), widths, mid, api.ErrArg)
				fail(t, all(5), l, widths, mid, api.ErrArg)
				fail(t, l, l, widths, mid, api.ErrArg)
			}
		}
	}
}

func TestWrongLengths(t *testing.T) {
	random := rand.New(rand.NewSource(6))
	for _, widths := range partitions(random) {
		mid := make([]bool, len(widths))
		for _, l := range badLists() {
			for _, other := range [][]int{all(5), all(math.MinInt), l} {
				fail(t, l, other, widths, mid, api.ErrForm)
				fail(t, other, l, widths, mid, api.ErrForm)
			}
		}
		for _, wrong := range [][]bool{nil, mid[1:], make([]bool, len(widths)+1), make([]bool, 1<<16)} {
			for _, c := range []channels{{all(5), all(5)}, {all(5), all(math.MaxInt)}, {all(math.MinInt), all(5)}, {nil, nil}} {
				fail(t, c.l, c.r, widths, wrong, api.ErrForm, "Couple", "Part")
			}
		}
		fail(t, all(5), all(5), widths, nil, api.OK, "Choose", "Gains", "Cross")
	}
}

func TestOutOfRange(t *testing.T) {
	for _, widths := range [][]int{{128}, {4, 60, 64}, slices.Repeat([]int{4}, 32)} {
		for _, mid := range [][]bool{make([]bool, len(widths)), slices.Repeat([]bool{true}, len(widths))} {
			for i := range 128 {
				for _, v := range []int{api.MaxCoef + 1, -api.MaxCoef - 1, 1 << 23, -1 << 23} {
					c := make([]int, 128)
					c[i] = v
					fail(t, c, all(0), widths, mid, api.ErrRange, "Choose", "Couple", "Gains", "Cross")
					fail(t, all(0), c, widths, mid, api.ErrRange, "Choose", "Couple", "Gains", "Cross")
					fail(t, c, all(0), widths, mid, api.OK, "Part")
					fail(t, all(0), c, widths, mid, api.OK, "Part")
				}
				for _, v := range []int{1<<23 + 1, -1<<23 - 1, math.MaxInt, math.MinInt} {
					c := make([]int, 128)
					c[i] = v
					fail(t, c, all(0), widths, mid, api.ErrRange)
					fail(t, all(0), c, widths, mid, api.ErrRange)
				}
			}
		}
	}
}

// lists are all results of all functions for some valid arguments.
func lists(t *testing.T, l, r, widths []int, mid []bool) [][]int {
	t.Helper()
	a, b, e1 := stereo.Couple(l, r, widths, mid)
	x, y, e2 := stereo.Part(l, r, widths, mid)
	gains, e3 := stereo.Gains(l, r, widths)
	cross, e4 := stereo.Cross(l, r, widths)
	if e1 != api.OK || e2 != api.OK || e3 != api.OK || e4 != api.OK {
		t.Fatal(e1, e2, e3, e4)
	}
	return [][]int{a, b, x, y, gains, cross}
}

// TestMemory checks that no argument is changed, and that results are memory of their own: what is written into one of them, all over its capacity, is nowhere else.
func TestMemory(t *testing.T) {
	random := rand.New(rand.NewSource(7))
	for _, widths := range partitions(random) {
		l, r := coefficients(random), coefficients(random)
		for _, mid := range choices(random, len(widths)) {
			wasL, wasR, wasWidths, wasMid := slices.Clone(l), slices.Clone(r), slices.Clone(widths), slices.Clone(mid)
			want := lists(t, l, r, widths, mid)
			got := lists(t, l, r, widths, mid)
			for i := range got {
				is(t, "a result", got[i], api.OK, want[i])
				for k := range got[i][:cap(got[i])] {
					got[i][:cap(got[i])][k] = math.MaxInt
				}
			}
			chosen, _ := stereo.Choose(l, r, widths)
			again, e := stereo.Choose(l, r, widths)
			is(t, "Choose", again, e, chosen)
			is(t, "the left one", l, api.OK, wasL)
			is(t, "the right one", r, api.OK, wasR)
			is(t, "the widths", widths, api.OK, wasWidths)
			is(t, "the choice", mid, api.OK, wasMid)
		}
	}
}
