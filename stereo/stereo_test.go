package stereo_test

import (
	"math"
	"math/rand"
	"slices"
	"testing"

	"shawm/api"
	"shawm/bands"
	"shawm/fixed"
	"shawm/lift"
	"shawm/stereo"
)

// channels are two lists of 128 coefficients.
type channels struct{ l, r []int }

// is fails unless a call returns that list without an error.
func is[T comparable](t *testing.T, name string, list []T, e api.Errno, want []T) {
	t.Helper()
	if e != api.OK || !slices.Equal(list, want) {
		t.Fatalf("%s: %v, %d, want %v", name, list, e, want)
	}
}

// all is a list of 128 times one number.
func all(v int) []int { return slices.Repeat([]int{v}, 128) }

// coefficients are 128 of any size.
func coefficients(random *rand.Rand) []int {
	c := make([]int, 128)
	for i := range c {
		most := api.MaxCoef >> random.Intn(22)
		c[i] = random.Intn(2*most+1) - most
	}
	return c
}

// ofSize are 128 coefficients of about one size.
func ofSize(random *rand.Rand, most int) []int {
	c := make([]int, 128)
	for i := range c {
		c[i] = random.Intn(2*most+1) - most
	}
	return c
}

// samples are channels of many kinds: silent, the same, opposite, near to each other, the greatest, and any.
func samples(random *rand.Rand) []channels {
	a, b := coefficients(random), coefficients(random)
	near, opposite, gaps := slices.Clone(a), slices.Clone(a), slices.Clone(b)
	for i := range a {
		near[i] = min(max(a[i]+random.Intn(7)-3, -api.MaxCoef), api.MaxCoef)
		opposite[i] = -a[i]
		if i/16%2 == 0 {
			gaps[i] = 0
		}
	}
	small, quiet := ofSize(random, 3), ofSize(random, 1)
	return []channels{
		{all(0), all(0)}, {all(api.MaxCoef), all(api.MaxCoef)}, {all(api.MaxCoef), all(-api.MaxCoef)}, {all(-api.MaxCoef), all(api.MaxCoef)},
		{a, b}, {a, a}, {a, near}, {a, opposite}, {a, gaps}, {gaps, gaps}, {a, all(0)}, {all(0), a},
		{small, quiet}, {small, gaps}, {quiet, small}, {ofSize(random, 40), ofSize(random, 40)}, {near, ofSize(random, 1000)},
	}
}

// partitions are widths of bands: those of long and short frames, one band, 32 of them, and any.
func partitions(random *rand.Rand) [][]int {
	list := [][]int{{128}, {1, 127}, {127, 1}, {64, 64}, slices.Repeat([]int{4}, 32), append(slices.Repeat([]int{1}, 31), 97), append([]int{97}, slices.Repeat([]int{1}, 31)...)}
	long, _ := bands.Widths(false, nil)
	list = append(list, long)
	for _, groups := range [][]int{{8}, {1, 7}, {2, 1, 1, 4}, {1, 1, 1, 1, 1, 1, 1, 1}} {
		short, _ := bands.Widths(true, groups)
		list = append(list, short)
	}
	for range 8 {
		var widths []int
		left := 128
		for len(widths) < 31 && left > 1 {
			width := 1 + random.Intn(left-1)>>random.Intn(6)
			widths = append(widths, width)
			left -= width
		}
		list = append(list, append(widths, left))
	}
	return list
}

// noPartitions are widths that are none.
func noPartitions() [][]int {
	return [][]int{
		nil, {}, {127}, {129}, {0}, {-1}, {0, 128}, {128, 0}, {64, 0, 64}, {-1, 129}, {129, -1}, {64, 63}, {64, 65}, {1, 128}, {128, 1}, {-128}, {-64, -64},
		slices.Repeat([]int{1}, 33), slices.Repeat([]int{4}, 33), append(slices.Repeat([]int{1}, 32), 96), slices.Repeat([]int{1}, 128), slices.Repeat([]int{4}, 31),
		// These add up to 128 where numbers wrap around.
		{math.MaxInt, math.MaxInt, 130}, {math.MinInt, math.MinInt, 128}, {math.MaxInt}, {math.MinInt}, slices.Repeat([]int{1}, 1<<16),
	}
}

// cost is that of a list, by the chapter's words.
func cost(t *testing.T, list []int) int {
	t.Helper()
	total := 0
	for _, c := range list {
		if c < 0 {
			c = -c
		}
		log, e := fixed.Log(c + 1)
		if e != api.OK {
			t.Fatalf("%d has no logarithm", c+1)
		}
		total += log
	}
	return total
}

// coupled are the lists of middles and differences of all pairs.
func coupled(t *testing.T, l, r []int) (a, b []int) {
	t.Helper()
	for i := range l {
		m, s, e := lift.Mid(l[i], r[i])
		if e != api.OK {
			t.Fatalf("%d and %d have no middle", l[i], r[i])
		}
		a, b = append(a, m), append(b, s)
	}
	return a, b
}

// cut is a list, band by band.
func cut(list, widths []int) [][]int {
	var parts [][]int
	for _, width := range widths {
		parts = append(parts, list[:width])
		list = list[width:]
	}
	return parts
}

// gainsOf are the gains of all bands, by the chapter's words.
func gainsOf(t *testing.T, c channels, widths []int) []int {
	t.Helper()
	var gains []int
	l, r := cut(c.l, widths), cut(c.r, widths)
	for band := range widths {
		a, b := coupled(t, l[band], r[band])
		gains = append(gains, cost(t, l[band])+cost(t, r[band])-cost(t, a)-cost(t, b))
	}
	return gains
}

func TestExamples(t *testing.T) {
	for _, c := range []struct {
		l, r        []int
		gain, cross int
		mid         bool
	}{
		{all(5), all(5), 128 * 661, 256, true},
		{all(1), all(-1), 65536 - 51840, -256, true},
		{all(0), all(0), 0, 0, false},
		{all(5), all(0), 128 * (661 - 405 - 661), 0, false},
		{all(0), all(5), 128 * (661 - 405 - 661), 0, false},
		{all(4), all(1), 128 * (fives + 256 - 405 - 512), 64, false},
		{all(-3), all(1), 128 * (512 + 256 - 256 - fives), -85, false},
		{all(3), all(2), 128 * (512 + 405 - 405 - 256), 170, true},
	} {
		gains, e := stereo.Gains(c.l, c.r, []int{128})
		is(t, "Gains", gains, e, []int{c.gain})
		mid, e := stereo.Choose(c.l, c.r, []int{128})
		is(t, "Choose", mid, e, []bool{c.mid})
		cross, e := stereo.Cross(c.l, c.r, []int{128})
		is(t, "Cross", cross, e, []int{c.cross})
	}
}

// fives is Log(5).
const fives = 594

func TestCoupleByHand(t *testing.T) {
	l, r := make([]int, 128), make([]int, 128)
	copy(l, []int{7, 4, -7, 4, 1})
	copy(r, []int{4, 7, 4, -7, 1})
	l[127], r[127], r[126] = api.MaxCoef, -api.MaxCoef, 9
	wantA, wantB := slices.Clone(l), slices.Clone(r)
	copy(wantA[1:], []int{5, -2, -2})
	copy(wantB[1:], []int{-3, -11, 11})
	wantA[127], wantB[127] = 0, 2*api.MaxCoef
	widths := []int{1, 3, 123, 1}
	mid := []bool{false, true, false, true}
	a, b, e := stereo.Couple(l, r, widths, mid)
	is(t, "the middles", a, e, wantA)
	is(t, "the differences", b, e, wantB)
	gotL, gotR, e := stereo.Part(wantA, wantB, widths, mid)
	is(t, "the left one", gotL, e, l)
	is(t, "the right one", gotR, e, r)
}

// TestChoose is Gains, Choose and the promise P13.7 too.
func TestChoose(t *testing.T) {
	random := rand.New(rand.NewSource(1))
	for range 20 {
		for _, widths := range partitions(random) {
			for _, c := range samples(random) {
				want := gainsOf(t, c, widths)
				chosen := make([]bool, len(widths))
				for band, gain := range want {
					chosen[band] = gain > 0
				}
				gains, e := stereo.Gains(c.l, c.r, widths)
				is(t, "Gains", gains, e, want)
				mid, e := stereo.Choose(c.l, c.r, widths)
				is(t, "Choose", mid, e, chosen)
				a, b, e := stereo.Couple(c.l, c.r, widths, mid)
				if before, after := cost(t, c.l)+cost(t, c.r), cost(t, a)+cost(t, b); after > before || e != api.OK {
					t.Fatalf("%v, coupled as chosen, costs %d instead of %d", c, after, before)
				}
			}
		}
	}
}

// TestSame is the promise P13.6.
func TestSame(t *testing.T) {
	random := rand.New(rand.NewSource(2))
	for _, widths := range partitions(random) {
		for range 20 {
			c := coefficients(random)
			for i := range c {
				if random.Intn(3) > 0 {
					c[i] = 0
				}
			}
			var want []bool
			for _, part := range cut(c, widths) {
				want = append(want, slices.ContainsFunc(part, func(v int) bool { return v != 0 }))
			}
			mid, e := stereo.Choose(c, slices.Clone(c), widths)
			is(t, "Choose of what is the same", mid, e, want)
			a, b, e := stereo.Couple(c, slices.Clone(c), widths, slices.Repeat([]bool{true}, len(widths)))
			is(t, "the middles of what is the same", a, e, c)
			is(t, "the differences of what is the same", b, e, all(0))
		}
	}
}

// crossOf is Cross of a band, by the chapter's words.
func crossOf(l, r []int) int {
	a, b, x := 0, 0, 0
	for i := range l {
		a += l[i] * l[i]
		b += r[i] * r[i]
		x += l[i] * r[i]
	}
	switch {
	case a == 0 || b == 0:
		return 0
	case x < 0:
		return -(256 * -x / max(a, b, -x))
	}
	return 256 * x / max(a, b, x)
}

// TestCross is the promise P13.8 too.
func TestCross(t *testing.T) {
	random := rand.New(rand.NewSource(3))
	for range 20 {
		for _, widths := range partitions(random) {
			for _, c := range samples(random) {
				var want, same []int
				r := cut(c.r, widths)
				for band, l := range cut(c.l, widths) {
					want = append(want, crossOf(l, r[band]))
					itself := 256
					if !slices.ContainsFunc(l, func(v int) bool { return v != 0 }) {
						itself = 0
					}
					same = append(same, itself)
				}
				list, e := stereo.Cross(c.l, c.r, widths)
				is(t, "Cross", list, e, want)
				if slices.Min(list) < -256 || slices.Max(list) > 256 {
					t.Fatalf("Cross of %v: %v", c, list)
				}
				list, e = stereo.Cross(c.r, c.l, widths)
				is(t, "Cross of exchanged channels", list, e, want)
				list, e = stereo.Cross(c.l, c.l, widths)
				is(t, "Cross of one channel with itself", list, e, same)
			}
		}
	}
}

func TestCrossByHand(t *testing.T) {
	l, r := make([]int, 128), make([]int, 128)
	copy(l, []int{3, 4, 0, 0, 0, 1, 1, 2, -3, 5, 1000, 5, 5})
	copy(r, []int{4, 3, 0, 9, 9, 0, 1, 3, 2, 1, 1, -5, -5})
	list, e := stereo.Cross(l, r, []int{2, 1, 2, 1, 1, 2, 2, 2, 115})
	// 24 of 25; nothing; one of both silent, twice; the same; 0 of 13; 1005 of 1000025, rounded down to 0; opposite; nothing.
	is(t, "Cross", list, e, []int{245, 0, 0, 0, 256, 0, 0, -256, 0})
	l[10], r[9], r[10] = -9, 0, 2
	list, e = stereo.Cross(l, r, []int{9, 2, 117})
	// Of the second one -18 of 106: 43.4, without the sign.
	is(t, "Cross", list[1:2], e, []int{-43})
}
