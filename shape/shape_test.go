package shape_test

import (
	"math"
	"math/rand"
	"slices"
	"testing"

	"shawm/api"
	"shawm/bands"
	"shawm/fixed"
	"shawm/quant"
	"shawm/shape"
)

// is fails unless a call returned that list, without an error.
func is(t *testing.T, name string, list []int, e api.Errno, want []int) {
	t.Helper()
	if e != api.OK || !slices.Equal(list, want) {
		t.Fatalf("%s: %v, %d, want %v", name, list, e, want)
	}
}

// isOne fails unless a call returned that number, without an error.
func isOne(t *testing.T, name string, v int, e api.Errno, want int) {
	t.Helper()
	if e != api.OK || v != want {
		t.Fatalf("%s: %d, %d, want %d", name, v, e, want)
	}
}

// draft is what the functions are given.
type draft struct{ c, widths, limits, scales []int }

func (d draft) clone() draft {
	return draft{slices.Clone(d.c), slices.Clone(d.widths), slices.Clone(d.limits), slices.Clone(d.scales)}
}

// unchanged fails unless all lists are as they were.
func (d draft) unchanged(t *testing.T, was draft) {
	t.Helper()
	is(t, "the coefficients", d.c, api.OK, was.c)
	is(t, "the widths", d.widths, api.OK, was.widths)
	is(t, "the limits", d.limits, api.OK, was.limits)
	is(t, "the scales", d.scales, api.OK, was.scales)
}

// parts are the bands of a list.
func parts(list, widths []int) [][]int {
	var all [][]int
	for _, width := range widths {
		all = append(all, list[:width])
		list = list[width:]
	}
	return all
}

// partitions are widths of bands: those of long and short frames, one band, 32 of them, and any.
func partitions(random *rand.Rand) [][]int {
	list := [][]int{{128}, {1, 127}, {127, 1}, slices.Repeat([]int{4}, 32), append(slices.Repeat([]int{1}, 31), 97), append([]int{97}, slices.Repeat([]int{1}, 31)...)}
	long, _ := bands.Widths(false, nil)
	short, _ := bands.Widths(true, []int{2, 1, 5})
	list = append(list, long, short)
	for range 6 {
		var widths []int
		left := 128
		for len(widths) < 31 && left > 1 {
			width := 1 + random.Intn(left-1)>>random.Intn(6)
			widths = append(widths, width)
			left -= width
		}
		list = append(list, append(widths, left))
	}
	return list
}

// spectra are coefficients of many kinds: zeros, the greatest, sparse ones, ones of one size, and ones of any.
func spectra(random *rand.Rand) [][]int {
	all := [][]int{make([]int, 128), slices.Repeat([]int{api.MaxCoef}, 128), slices.Repeat([]int{1, -1}, 64)}
	for i := range 9 {
		c := make([]int, 128)
		most := api.MaxCoef >> (2 * i)
		for k := range c {
			switch i % 3 {
			case 0:
				c[k] = random.Intn(2*most+1) - most
			case 1:
				c[k] = (random.Intn(2*most+1) - most) >> random.Intn(22)
			case 2:
				c[k] = (random.Intn(2*most+1) - most) * (random.Intn(8) / 7)
			}
		}
		all = append(all, c)
	}
	return all
}

// drafts have limits and scales of all sizes: limits that are noises of scales too, and scales that do not fit.
func drafts(t *testing.T, random *rand.Rand) []draft {
	t.Helper()
	var all []draft
	for _, widths := range partitions(random) {
		for _, c := range spectra(random) {
			d := draft{c: c, widths: widths}
			for _, part := range parts(c, widths) {
				noise, e := quant.Noise(part, random.Intn(96))
				if e != api.OK {
					t.Fatalf("Noise: %d", e)
				}
				limits := []int{0, 1, 1 << 56, noise, max(noise-1, 0), noise + 1, 1 << random.Intn(57)}
				d.limits = append(d.limits, limits[random.Intn(len(limits))])
				scales := []int{0, 95, leastOf(t, part), min(leastOf(t, part)+1, 95), random.Intn(96)}
				d.scales = append(d.scales, scales[random.Intn(len(scales))])
			}
			all = append(all, d)
		}
	}
	return all
}

func leastOf(t *testing.T, part []int) int {
	t.Helper()
	s, e := quant.Least(part)
	if e != api.OK {
		t.Fatalf("Least: %d", e)
	}
	return s
}

// noisesOf are the noises of all bands, by the chapter's words.
func noisesOf(t *testing.T, d draft, scales []int) []int {
	t.Helper()
	var all []int
	for band, part := range parts(d.c, d.widths) {
		noise, e := quant.Noise(part, scales[band])
		if e != api.OK {
			t.Fatalf("Noise: %d", e)
		}
		all = append(all, noise)
	}
	return all
}

// excessOf is Log(N + 1) - Log(L + 1).
func excessOf(t *testing.T, noise, limit int) int {
	t.Helper()
	above, e := fixed.Log(noise + 1)
	below, f := fixed.Log(limit + 1)
	if e != api.OK || f != api.OK {
		t.Fatalf("%d or %d has no logarithm", noise+1, limit+1)
	}
	return above - below
}

func TestExamples(t *testing.T) {
	zeros, one := make([]int, 128), make([]int, 128)
	one[77] = 3
	scales, e := shape.Scales(zeros, []int{1, 120, 7}, []int{0, 1 << 56, 9})
	is(t, "Scales of zeros", scales, e, []int{95, 95, 95})
	scales, e = shape.Scales(one, []int{128}, []int{0})
	is(t, "Scales of a 3", scales, e, []int{7})
	scales, e = shape.Scales(one, []int{77, 1, 50}, []int{0, 0, 0})
	is(t, "Scales of a 3 in a band of its own", scales, e, []int{95, 7, 95})
}

// byHand are three bands: a -2, which the scale 0 makes -1, and the scale 10 makes 0; the greatest coefficient, which the scale 95 keeps; and a 1, which the scale 95 makes 0.
func byHand() (c, widths []int) {
	c = make([]int, 128)
	c[1], c[2], c[127] = -2, api.MaxCoef, 1
	return c, []int{2, 6, 120}
}

func TestQuantizeByHand(t *testing.T) {
	c, widths := byHand()
	scales := []int{0, 95, 95}
	quanta, e := shape.Quantize(c, widths, scales)
	want := make([]int, 128)
	want[1], want[2] = -1, 1
	is(t, "Quantize", quanta, e, want)
	values, e := shape.Values(quanta, widths, scales)
	want[2] = api.MaxCoef
	is(t, "Values", values, e, want)
	noises, e := shape.Noises(c, widths, scales)
	is(t, "Noises", noises, e, []int{1, 0, 1})
}

func TestOverByHand(t *testing.T) {
	c, widths := byHand()
	for _, x := range []struct {
		scales, limits []int
		over, worst    int
		amplified      []int
	}{
		{[]int{0, 95, 95}, []int{0, 0, 0}, 512, 0, []int{0, 95, 94}},   // the first scale is the least one
		{[]int{10, 95, 95}, []int{5, 0, 3}, 0, 1, []int{10, 95, 95}},   // the second band alone is not below its limit
		{[]int{10, 95, 95}, []int{4, 1, 0}, 256, 2, []int{10, 95, 94}}, // a noise that is the limit is not above it
		{[]int{10, 95, 95}, []int{0, 0, 0}, 594 + 256, 0, []int{9, 95, 94}},
		{[]int{95, 95, 95}, []int{19, 1, 3}, 0, 1, []int{95, 95, 95}}, // 5 to 20, 1 to 2, and 2 to 4
	} {
		over, e := shape.Over(c, widths, x.scales, x.limits)
		isOne(t, "Over", over, e, x.over)
		worst, e := shape.Worst(c, widths, x.scales, x.limits)
		isOne(t, "Worst", worst, e, x.worst)
		scales, e := shape.Amplify(c, widths, x.scales, x.limits)
		is(t, "Amplify", scales, e, x.amplified)
	}
}

// TestNotFitting has scales of the second band that do not fit, and what is just above them.
func TestNotFitting(t *testing.T) {
	c, widths := byHand()
	c[2]-- // which no scale keeps
	limits := []int{0, 0, 0}
	least := leastOf(t, c[2:8])
	for _, x := range []struct{ scale, amplified, less, more int }{
		{0, 0, least, 3}, {least - 1, least - 1, least, least + 2}, {least, least, least, least + 3},
		{least + 1, least, least, least + 4}, {least + 4, least + 3, least + 1, least + 7},
	} {
		given := []int{0, x.scale, 7}
		scales, e := shape.Amplify(c, widths, given, limits)
		is(t, "Amplify", scales, e, []int{0, x.amplified, 6})
		scales, e = shape.Coarser(c, widths, given, -3)
		is(t, "Coarser by -3", scales, e, []int{0, x.less, 4})
		scales, e = shape.Coarser(c, widths, given, 3)
		is(t, "Coarser by 3", scales, e, []int{3, x.more, 10})
		scales, e = shape.Coarser(c, widths, given, 0)
		is(t, "Coarser by 0", scales, e, given)
	}
}

// TestScales is the promises P16.6 and P16.7 too.
func TestScales(t *testing.T) {
	random := rand.New(rand.NewSource(1))
	for _, d := range drafts(t, random) {
		was := d.clone()
		var want []int
		for band, part := range parts(d.c, d.widths) {
			s, e := quant.Most(part, d.limits[band])
			if e != api.OK {
				s = leastOf(t, part)
			}
			want = append(want, s)
		}
		scales, e := shape.Scales(d.c, d.widths, d.limits)
		is(t, "Scales", scales, e, want)

		rest := 0
		for band, noise := range noisesOf(t, d, scales) {
			if noise <= d.limits[band] {
				continue
			}
			rest += excessOf(t, noise, d.limits[band])
			part := parts(d.c, d.widths)[band]
			for s := leastOf(t, part); s < 96; s++ {
				if less, e := quant.Noise(part, s); e != api.OK || less <= d.limits[band] {
					t.Fatalf("the band %v has the scale %d, but within %d is %d", part, scales[band], d.limits[band], s)
				}
			}
		}
		over, e := shape.Over(d.c, d.widths, scales, d.limits)
		isOne(t, "Over of Scales", over, e, rest)

		more := slices.Clone(d.limits)
		for band := range more {
			more[band] = min(more[band]+random.Intn(2)<<random.Intn(50), 1<<56)
		}
		risen, e := shape.Scales(d.c, d.widths, more)
		for band, s := range risen {
			if e != api.OK || s < scales[band] {
				t.Fatalf("the limits %v, raised from %v, have the scales %v instead of %v, %d", more, d.limits, risen, scales, e)
			}
		}
		d.unchanged(t, was)
	}
}

// TestQuantize is Values and Noises too, and what P16.8 says of them.
func TestQuantize(t *testing.T) {
	random := rand.New(rand.NewSource(2))
	for _, d := range drafts(t, random) {
		was := d.clone()
		var quanta, values []int
		for band, part := range parts(d.c, d.widths) {
			q, e := quant.Quantize(part, d.scales[band])
			v, f := quant.Values(q, d.scales[band])
			if e != api.OK || f != api.OK {
				t.Fatalf("Quantize: %d, Values: %d", e, f)
			}
			quanta, values = append(quanta, q...), append(values, v...)
		}
		got, e := shape.Quantize(d.c, d.widths, d.scales)
		is(t, "Quantize", got, e, quanta)
		got, e = shape.Values(got, d.widths, d.scales)
		is(t, "Values", got, e, values)
		noises, e := shape.Noises(d.c, d.widths, d.scales)
		is(t, "Noises", noises, e, noisesOf(t, d, d.scales))
		left := parts(got, d.widths)
		for band, part := range parts(d.c, d.widths) {
			for i, v := range part {
				noises[band] -= (v - left[band][i]) * (v - left[band][i])
			}
		}
		is(t, "Noises less those of Values", noises, e, make([]int, len(d.widths)))
		d.unchanged(t, was)
	}
}

func TestValues(t *testing.T) {
	random := rand.New(rand.NewSource(3))
	for _, d := range drafts(t, random) {
		q := make([]int, 128)
		for i := range q {
			q[i] = (random.Intn(2047) - 1023) >> random.Intn(10)
		}
		var want []int
		for band, part := range parts(q, d.widths) {
			v, e := quant.Values(part, d.scales[band])
			if e != api.OK {
				t.Fatalf("Values: %d", e)
			}
			want = append(want, v...)
		}
		values, e := shape.Values(q, d.widths, d.scales)
		is(t, "Values", values, e, want)
	}
}

// TestOver is Worst and Amplify too, and what P16.8 says of scales.
func TestOver(t *testing.T) {
	random := rand.New(rand.NewSource(4))
	for _, d := range drafts(t, random) {
		was := d.clone()
		over, worst, greatest := 0, -1, math.MinInt
		amplified := slices.Clone(d.scales)
		for band, noise := range noisesOf(t, d, d.scales) {
			excess := excessOf(t, noise, d.limits[band])
			if excess > greatest {
				worst, greatest = band, excess
			}
			if noise <= d.limits[band] {
				continue
			}
			over += excess
			if least := leastOf(t, parts(d.c, d.widths)[band]); d.scales[band] > least {
				amplified[band]--
			}
		}
		v, e := shape.Over(d.c, d.widths, d.scales, d.limits)
		isOne(t, "Over", v, e, over)
		v, e = shape.Worst(d.c, d.widths, d.scales, d.limits)
		isOne(t, "Worst", v, e, worst)
		list, e := shape.Amplify(d.c, d.widths, d.scales, d.limits)
		is(t, "Amplify", list, e, amplified)
		d.unchanged(t, was)
	}
}

// TestFits is the promise P16.8: scales that fit still do, however often they are amplified.
func TestFits(t *testing.T) {
	random := rand.New(rand.NewSource(5))
	for _, d := range drafts(t, random) {
		scales, e := shape.Scales(d.c, d.widths, d.limits)
		for band := range scales {
			scales[band] = min(scales[band]+random.Intn(4), 95)
		}
		for range 6 {
			for band, part := range parts(d.c, d.widths) {
				if e != api.OK || scales[band] < leastOf(t, part) {
					t.Fatalf("the scale %d does not fit the band %v, %d", scales[band], part, e)
				}
			}
			scales, e = shape.Amplify(d.c, d.widths, scales, d.limits)
		}
	}
}

// TestCoarser is the promise P16.9 too.
func TestCoarser(t *testing.T) {
	random := rand.New(rand.NewSource(6))
	for _, d := range drafts(t, random) {
		was := d.clone()
		for _, n := range []int{0, 1, -1, 96, -96, 95, -95, random.Intn(96), -random.Intn(96)} {
			var want []int
			for band, part := range parts(d.c, d.widths) {
				s := min(d.scales[band]+n, 95)
				if n < 0 {
					s = max(s, leastOf(t, part))
				}
				want = append(want, s)
			}
			scales, e := shape.Coarser(d.c, d.widths, d.scales, n)
			is(t, "Coarser", scales, e, want)
		}
		scales, e := shape.Coarser(d.c, d.widths, d.scales, 0)
		is(t, "Coarser by 0", scales, e, d.scales)
		scales, e = shape.Coarser(d.c, d.widths, d.scales, 96)
		is(t, "Coarser by 96", scales, e, slices.Repeat([]int{95}, len(d.widths)))
		d.unchanged(t, was)
	}
}
