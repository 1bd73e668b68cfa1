package psycho_test

import (
	"math"
	"math/rand"
	"slices"
	"testing"

	"shawm/api"
	"shawm/bands"
	"shawm/energy"
	"shawm/fixed"
	"shawm/psycho"
)

// limitsOf are the limits, by the chapter's words.
func limitsOf(t *testing.T, c []int, rate, quality int, d division) []int {
	t.Helper()
	energies, e := energy.Energies(c, d.short, d.groups)
	tones, f := energy.Tones(c, d.short, d.groups)
	levels, g := energy.Levels(energies)
	n := 15
	if d.short {
		n = 4
	}
	spread, h := energy.Spread(levels, n)
	if e != api.OK || f != api.OK || g != api.OK || h != api.OK {
		t.Fatalf("energy: %d, %d, %d, %d", e, f, g, h)
	}
	var limits []int
	for b, w := range widthsOf(t, d) {
		pitch, _ := bands.Pitch(rate, b, d.short, d.groups)
		level := max(quietAt(pitch)+log(t, w), spread[b]-256-3*tones[b]-128*quality)
		limit := 1
		if level > 0 {
			limit, _ = fixed.Exp(level)
		}
		limits = append(limits, limit)
	}
	return limits
}

// inQuiet are the limits in quiet alone.
func inQuiet(t *testing.T, rate int, d division) []int {
	t.Helper()
	var limits []int
	for b, w := range widthsOf(t, d) {
		pitch, _ := bands.Pitch(rate, b, d.short, d.groups)
		limit, _ := fixed.Exp(quietAt(pitch) + log(t, w))
		limits = append(limits, limit)
	}
	return limits
}

// TestLimitsByHand has noise of one size in all bands, and a single coefficient that makes its own band a tone.
func TestLimitsByHand(t *testing.T) {
	zeros := make([]int, 128)
	limits, e := psycho.Limits(zeros, 48000, 0, false, nil)
	is(t, "Limits of zeros", limits[:2], e, []int{128, 32})

	even := slices.Repeat([]int{1 << 20, -1 << 20}, 64) // in the band 0 the level (40 + 2) 256
	limits, e = psycho.Limits(even, 48000, 0, false, nil)
	is(t, "a limit of noise", limits[:1], e, []int{1 << 41})
	limits, e = psycho.Limits(even, 48000, 4, false, nil)
	is(t, "a limit of noise, at a quality", limits[:1], e, []int{1 << 39})

	single := slices.Clone(zeros)
	single[0] = 1 << 20 // the level 40 256 in the band 0; the tone 255 there
	limits, e = psycho.Limits(single, 48000, 10, false, nil)
	want := inQuiet(t, 48000, division{false, nil})
	for b := range want {
		level := 40*256 - 384*b - 256 - 1280
		if b == 0 {
			level -= 3 * 255
		}
		if limit, e := fixed.Exp(level); e == api.OK {
			want[b] = max(want[b], limit)
		}
	}
	is(t, "Limits of a tone", limits, e, want)
}

// TestLimits is the promises P12.5 and P12.6 too.
func TestLimits(t *testing.T) {
	random := rand.New(rand.NewSource(4))
	for _, c := range spectra(random) {
		was := slices.Clone(c)
		for i, d := range divisions() {
			rate := rates()[i%9]
			quiet := inQuiet(t, rate, d)
			var last []int
			for quality := range 11 {
				limits, e := psycho.Limits(c, rate, quality, d.short, d.groups)
				is(t, "Limits", limits, e, limitsOf(t, c, rate, quality, d))
				for b, limit := range limits {
					if limit < 1 || limit < quiet[b] || quality > 0 && limit > last[b] {
						t.Errorf("%v, quality %d: the limits %v, after %v, in quiet %v", d, quality, limits, last, quiet)
					}
				}
				last = limits
			}
		}
		is(t, "the spectrum", c, api.OK, was)
	}
}

// TestLimitsOfZeros is the promise P12.6.
func TestLimitsOfZeros(t *testing.T) {
	zeros := make([]int, 128)
	for _, d := range divisions() {
		for _, rate := range rates() {
			for quality := range 11 {
				limits, e := psycho.Limits(zeros, rate, quality, d.short, d.groups)
				is(t, "Limits of zeros", limits, e, inQuiet(t, rate, d))
				energies, _ := energy.Energies(zeros, d.short, d.groups)
				v, e := psycho.Demand(energies, limits, d.short, d.groups)
				isOne(t, "Demand of zeros", v, e, 0)
			}
		}
	}
}

func TestLimitErrors(t *testing.T) {
	bad := slices.Repeat([]int{math.MaxInt}, 1<<10)
	for _, n := range []int{0, 1, 127, 128, 129} {
		for _, d := range noDivisions() {
			list, e := psycho.Limits(bad[:n], 48000, 5, d.short, d.groups)
			fails(t, "Limits of no division", list, e, api.ErrArg)
		}
		for _, d := range divisions() {
			for _, rate := range noRates() {
				list, e := psycho.Limits(bad[:n], rate, 5, d.short, d.groups)
				fails(t, "Limits of no rate", list, e, api.ErrArg)
			}
			for _, quality := range []int{-1, 11, 100, math.MaxInt, math.MinInt} {
				list, e := psycho.Limits(bad[:n], 8000, quality, d.short, d.groups)
				fails(t, "Limits of no quality", list, e, api.ErrArg)
			}
		}
	}
	for _, d := range divisions() {
		for _, n := range []int{0, 1, 16, 127, 129, 1 << 10} {
			list, e := psycho.Limits(bad[:n], 44100, 10, d.short, d.groups)
			fails(t, "Limits of no spectrum", list, e, api.ErrForm)
			list, e = psycho.Limits(make([]int, n), 44100, 0, d.short, d.groups)
			fails(t, "Limits of no spectrum", list, e, api.ErrForm)
		}
		for _, v := range []int{api.MaxCoef + 1, -api.MaxCoef - 1, math.MaxInt, math.MinInt} {
			for i := range 128 {
				c := make([]int, 128)
				c[i] = v
				list, e := psycho.Limits(c, 11025, 7, d.short, d.groups)
				fails(t, "Limits of no coefficients", list, e, api.ErrRange)
			}
		}
	}
}
