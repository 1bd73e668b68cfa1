package psycho_test

import (
	"math"
	"math/rand"
	"slices"
	"testing"

	"shawm/api"
	"shawm/bands"
	"shawm/energy"
	"shawm/fixed"
	"shawm/psycho"
)

// division is two arguments of most functions.
type division struct {
	short  bool
	groups []int
}

// divisions are the long one, and short ones of one to eight groups.
func divisions() []division {
	all := []division{{false, nil}, {false, []int{}}}
	for _, groups := range [][]int{{8}, {1, 7}, {7, 1}, {3, 3, 2}, {1, 2, 1, 4}, {1, 1, 2, 2, 2}, {2, 1, 1, 1, 1, 2}, {1, 1, 1, 1, 1, 1, 2}, {1, 1, 1, 1, 1, 1, 1, 1}} {
		all = append(all, division{true, groups})
	}
	return all
}

// noDivisions are arguments that are none.
func noDivisions() []division {
	return []division{
		{false, []int{8}}, {false, []int{0}}, {true, nil}, {true, []int{}}, {true, []int{7}}, {true, []int{9}}, {true, []int{8, 8}},
		{true, []int{0, 8}}, {true, []int{-1, 9}}, {true, []int{math.MaxInt, math.MaxInt, 10}}, {true, slices.Repeat([]int{1}, 1<<16)},
	}
}

func rates() []int { return []int{8000, 11025, 12000, 16000, 22050, 24000, 32000, 44100, 48000} }

func noRates() []int {
	return []int{0, -8000, 1, 7999, 8001, 44000, 48001, 96000, math.MaxInt, math.MinInt}
}

// widthsOf are the widths of all bands of a division.
func widthsOf(t *testing.T, d division) []int {
	t.Helper()
	widths, e := bands.Widths(d.short, d.groups)
	if e != api.OK {
		t.Fatalf("%v is no division", d)
	}
	return widths
}

func log(t *testing.T, n int) int {
	t.Helper()
	level, e := fixed.Log(n)
	if e != api.OK {
		t.Fatalf("%d has no logarithm", n)
	}
	return level
}

// spectra are coefficients of many kinds: none but zeros, the greatest, single great ones, and noise of many sizes.
func spectra(random *rand.Rand) [][]int {
	all := [][]int{make([]int, 128), slices.Repeat([]int{api.MaxCoef}, 128)}
	for i := range 12 {
		c := make([]int, 128)
		most := 1 << (2 * i)
		for k := range c {
			if i%2 == 0 && k%8 == 0 {
				most = 1 << random.Intn(22)
			}
			if most = min(most, api.MaxCoef); i%3 > 0 || random.Intn(8) == 0 {
				c[k] = random.Intn(2*most+1) - most
			}
		}
		all = append(all, c)
	}
	return all
}

// energiesOf are so many energies, of all sizes.
func energiesOf(random *rand.Rand, count int) []int {
	list := make([]int, count)
	for b := range list {
		list[b] = random.Intn(1<<56+1) >> random.Intn(57)
	}
	return list
}

// is fails unless a call returned that list, without an error.
func is[T comparable](t *testing.T, name string, list []T, e api.Errno, want []T) {
	t.Helper()
	if e != api.OK || !slices.Equal(list, want) {
		t.Fatalf("%s: %v, %d, want %v", name, list, e, want)
	}
}

// isOne fails unless a call returned that number, without an error.
func isOne(t *testing.T, name string, v int, e api.Errno, want int) {
	t.Helper()
	is(t, name, []int{v}, e, []int{want})
}

// fails fails unless a call returned that error, and no list.
func fails[T any](t *testing.T, name string, list []T, e, want api.Errno) {
	t.Helper()
	if len(list) != 0 || e != want {
		t.Errorf("%s: %v, %d, want the error %d", name, list, e, want)
	}
}

// failsOne fails unless a call returned that error, and zero.
func failsOne(t *testing.T, name string, v int, e, want api.Errno) {
	t.Helper()
	if v != 0 || e != want {
		t.Errorf("%s: %d, %d, want the error %d", name, v, e, want)
	}
}

// quietAt is the level in quiet, by the chapter's words.
func quietAt(pitch int) int {
	switch {
	case pitch < 100:
		return 2560
	case pitch < 500:
		return 1280
	case pitch < 2000:
		return 768
	case pitch < 5000:
		return 512
	case pitch < 10000:
		return 1024
	case pitch < 15000:
		return 2048
	}
	return 3072
}

// TestQuietByHand has pitches just at 500, 2000 and 5000, and others that are below each number of the chapter, or above all.
func TestQuietByHand(t *testing.T) {
	for _, c := range []struct{ rate, b, want int }{
		{8000, 0, 2560}, {11025, 0, 2560}, {12000, 0, 2560}, {16000, 0, 1280}, {48000, 0, 1280}, {48000, 1, 768},
		{16000, 7, 512}, {32000, 8, 1024}, {48000, 14, 3072}, {32000, 14, 2048}, {44100, 12, 2048}, {24000, 14, 2048},
	} {
		v, e := psycho.Quiet(c.rate, c.b, false, nil)
		isOne(t, "Quiet", v, e, c.want)
	}
	for _, c := range []struct{ rate, b, want int }{{16000, 0, 768}, {16000, 4, 768}, {12000, 0, 1280}, {8000, 1, 768}, {48000, 3, 3072}, {48000, 7, 3072}} {
		v, e := psycho.Quiet(c.rate, c.b, true, []int{3, 5})
		isOne(t, "Quiet of short blocks", v, e, c.want)
	}
}

func TestQuiet(t *testing.T) {
	found := map[int]bool{}
	for _, rate := range rates() {
		for _, d := range divisions() {
			for b := range widthsOf(t, d) {
				pitch, _ := bands.Pitch(rate, b, d.short, d.groups)
				v, e := psycho.Quiet(rate, b, d.short, d.groups)
				isOne(t, "Quiet", v, e, quietAt(pitch))
				found[v] = true
			}
		}
	}
	if len(found) != 7 {
		t.Errorf("not all levels in quiet: %v", found)
	}
}

func TestQuietErrors(t *testing.T) {
	for _, d := range noDivisions() {
		for _, b := range []int{0, -1, 1000} {
			v, e := psycho.Quiet(8000, b, d.short, d.groups)
			failsOne(t, "Quiet of no division", v, e, api.ErrArg)
		}
	}
	for _, d := range divisions() {
		count := len(widthsOf(t, d))
		for _, b := range []int{-1, count, count + 1, 128, math.MaxInt, math.MinInt} {
			v, e := psycho.Quiet(48000, b, d.short, d.groups)
			failsOne(t, "Quiet of no band", v, e, api.ErrRange)
			for _, rate := range noRates() {
				v, e = psycho.Quiet(rate, b, d.short, d.groups)
				failsOne(t, "Quiet of no rate", v, e, api.ErrArg)
			}
		}
	}
}

// TestHeard has what is the same as its limit, and just above it.
func TestHeard(t *testing.T) {
	heard, e := psycho.Heard([]int{0, 1, 0, 5, 6, 7, 1 << 56, 1 << 56, 1<<56 - 1}, []int{0, 0, 1, 6, 6, 6, 1 << 56, 1<<56 - 1, 1 << 56})
	is(t, "Heard", heard, e, []bool{false, true, false, false, false, true, false, true, false})
	heard, e = psycho.Heard(nil, []int{})
	is(t, "Heard of nothing", heard, e, nil)
	random := rand.New(rand.NewSource(1))
	for i := range 330 {
		energies, limits := energiesOf(random, i%33), energiesOf(random, i%33)
		was, kept := slices.Clone(energies), slices.Clone(limits)
		var want []bool
		for b := range energies {
			want = append(want, energies[b] > limits[b])
		}
		heard, e := psycho.Heard(energies, limits)
		is(t, "Heard", heard, e, want)
		is(t, "the energies", energies, api.OK, was)
		is(t, "the limits", limits, api.OK, kept)
	}
}

func TestHeardErrors(t *testing.T) {
	wrong := slices.Repeat([]int{-1}, 1<<10)
	for _, n := range []int{33, 34, 128, 1 << 10} {
		for _, m := range []int{0, 1, 32, 33, n} {
			heard, e := psycho.Heard(wrong[:n], wrong[:m])
			fails(t, "Heard of too many energies", heard, e, api.ErrFull)
			heard, e = psycho.Heard(wrong[:m], wrong[:n])
			fails(t, "Heard of too many limits", heard, e, api.ErrFull)
		}
	}
	for n := range 33 {
		for m := range 33 {
			want := api.ErrForm
			if n == m && n > 0 {
				want = api.ErrRange
			} else if n == m {
				want = api.OK
			}
			heard, e := psycho.Heard(wrong[:n], wrong[:m])
			fails(t, "Heard", heard, e, want)
		}
	}
	for _, v := range []int{-1, 1<<56 + 1, math.MaxInt, math.MinInt} {
		for b := range 32 {
			list := make([]int, 32)
			list[b] = v
			heard, e := psycho.Heard(list, make([]int, 32))
			fails(t, "Heard of wrong energies", heard, e, api.ErrRange)
			heard, e = psycho.Heard(make([]int, 32), list)
			fails(t, "Heard of wrong limits", heard, e, api.ErrRange)
		}
	}
}

// demandOf is the demand, by the chapter's words.
func demandOf(t *testing.T, energies, limits, widths []int) int {
	t.Helper()
	sum := 0
	for b, w := range widths {
		if energies[b] > limits[b] {
			sum += max(int(math.Floor(float64(w*(log(t, energies[b]+1)-log(t, limits[b]+1)))/512)), 0)
		}
	}
	return sum
}

func TestDemandByHand(t *testing.T) {
	for _, c := range []struct{ b, energy, limit, want int }{
		{0, 1023, 31, 10}, {0, 31, 31, 0}, {0, 31, 1023, 0}, {14, 1023, 31, 50}, {7, 1, 0, 4}, {0, 32, 31, 0}, {14, 33, 31, 0}, {0, 2, 0, 3}, {0, 1 << 56, 0, 112},
	} {
		energies, limits := make([]int, 15), make([]int, 15)
		energies[c.b], limits[c.b] = c.energy, c.limit
		v, e := psycho.Demand(energies, limits, false, nil)
		isOne(t, "Demand", v, e, c.want)
	}
	v, e := psycho.Demand([]int{3, 0, 7, 0, 0, 15, 0, 31}, []int{1, 0, 0, 9, 99, 0, 0, 0}, true, []int{1, 7})
	isOne(t, "Demand of groups", v, e, 1+6+28+140)
}

// TestDemand is the promise P12.7 too.
func TestDemand(t *testing.T) {
	random := rand.New(rand.NewSource(2))
	for _, d := range divisions() {
		widths := widthsOf(t, d)
		for range 200 {
			energies, limits := energiesOf(random, len(widths)), energiesOf(random, len(widths))
			was, kept := slices.Clone(energies), slices.Clone(limits)
			v, e := psycho.Demand(energies, limits, d.short, d.groups)
			isOne(t, "Demand", v, e, demandOf(t, energies, limits, widths))
			is(t, "the energies", energies, api.OK, was)
			is(t, "the limits", limits, api.OK, kept)
			b := random.Intn(len(widths))
			energies[b] = random.Intn(energies[b] + 1)
			if less, e := psycho.Demand(energies, limits, d.short, d.groups); less > v || e != api.OK {
				t.Errorf("Demand of %v: %d, of %v: %d, %d", was, v, energies, less, e)
			}
		}
	}
}

func TestDemandErrors(t *testing.T) {
	for _, d := range noDivisions() {
		for _, list := range [][]int{nil, make([]int, 15), make([]int, 4), make([]int, 32), {-1}} {
			v, e := psycho.Demand(list, list, d.short, d.groups)
			failsOne(t, "Demand of no division", v, e, api.ErrArg)
		}
	}
	for _, d := range divisions() {
		count := len(widthsOf(t, d))
		for _, n := range []int{0, 1, count - 1, count + 1, 33, 1 << 16} {
			wrong, right := slices.Repeat([]int{-1}, n), make([]int, count)
			v, e := psycho.Demand(wrong, right, d.short, d.groups)
			failsOne(t, "Demand of too few or too many energies", v, e, api.ErrForm)
			v, e = psycho.Demand(right, wrong, d.short, d.groups)
			failsOne(t, "Demand of too few or too many limits", v, e, api.ErrForm)
			v, e = psycho.Demand(wrong, wrong, d.short, d.groups)
			failsOne(t, "Demand of too few or too many of both", v, e, api.ErrForm)
		}
		for _, value := range []int{-1, 1<<56 + 1, math.MaxInt, math.MinInt} {
			for b := range count {
				list := make([]int, count)
				list[b] = value
				v, e := psycho.Demand(list, make([]int, count), d.short, d.groups)
				failsOne(t, "Demand of wrong energies", v, e, api.ErrRange)
				v, e = psycho.Demand(make([]int, count), list, d.short, d.groups)
				failsOne(t, "Demand of wrong limits", v, e, api.ErrRange)
			}
		}
	}
}

func TestMaskedByHand(t *testing.T) {
	c := make([]int, 128)
	for i := range c {
		c[i] = 1 - i%2*2
	}
	limits := make([]int, 15)
	limits[0], limits[1], limits[13], limits[14] = 4, 3, 16, 19
	want := slices.Clone(c)
	clear(want[:4])
	clear(want[92:108])
	list, e := psycho.Masked(c, limits, false, nil)
	is(t, "Masked", list, e, want)
	want = slices.Clone(c)
	for block := 1; block < 8; block++ { // the band 5, of the groups 1 7
		clear(want[16*block+2 : 16*block+4])
	}
	list, e = psycho.Masked(c, []int{0, 1, 2, 7, 13, 14, 27, 55}, true, []int{1, 7})
	is(t, "Masked", list, e, want)
}

// TestMasked is the promise P12.8 too.
func TestMasked(t *testing.T) {
	random := rand.New(rand.NewSource(3))
	for _, c := range spectra(random) {
		was := slices.Clone(c)
		for _, d := range divisions() {
			energies, e := energy.Energies(c, d.short, d.groups)
			if e != api.OK {
				t.Fatalf("Energies: %d", e)
			}
			limits := make([]int, len(energies))
			for b, v := range energies {
				limits[b] = max(v+random.Intn(3)-1, 0)
			}
			kept := slices.Clone(limits)
			want, rest := slices.Clone(c), make([]int, 128)
			order, _ := bands.Order(d.short, d.groups)
			for i, position := range order {
				if b, _ := bands.Band(i, d.short, d.groups); energies[b] <= limits[b] {
					want[position], rest[position] = 0, c[position]
				}
			}
			list, e := psycho.Masked(c, limits, d.short, d.groups)
			is(t, "Masked", list, e, want)
			is(t, "the spectrum", c, api.OK, was)
			is(t, "the limits", limits, api.OK, kept)
			left, _ := energy.Energies(rest, d.short, d.groups)
			for b, v := range left {
				if v > limits[b] {
					t.Errorf("%v, band %d: the energy %d is left out, above %d", d, b, v, limits[b])
				}
			}
		}
	}
}

func TestMaskedErrors(t *testing.T) {
	bad := slices.Repeat([]int{math.MaxInt}, 1<<10)
	zeros := make([]int, 1<<10)
	for _, d := range noDivisions() {
		for _, n := range []int{0, 15, 127, 128} {
			list, e := psycho.Masked(bad[:n], bad[:15], d.short, d.groups)
			fails(t, "Masked of no division", list, e, api.ErrArg)
		}
	}
	for _, d := range divisions() {
		count := len(widthsOf(t, d))
		for _, values := range [][]int{zeros, bad} {
			for _, n := range []int{0, 1, 16, 127, 129, 1 << 10} {
				list, e := psycho.Masked(values[:n], bad[:count], d.short, d.groups)
				fails(t, "Masked of no spectrum", list, e, api.ErrForm)
			}
			for _, n := range []int{0, 1, count - 1, count + 1, 33, 1 << 10} {
				list, e := psycho.Masked(values[:128], bad[:n], d.short, d.groups)
				fails(t, "Masked by too few or too many limits", list, e, api.ErrForm)
			}
		}
		for _, v := range []int{api.MaxCoef + 1, -api.MaxCoef - 1, math.MaxInt, math.MinInt} {
			for i := range 128 {
				c := make([]int, 128)
				c[i] = v
				list, e := psycho.Masked(c, zeros[:count], d.short, d.groups)
				fails(t, "Masked of no coefficients", list, e, api.ErrRange)
			}
		}
		for _, v := range []int{-1, 1<<56 + 1, math.MaxInt, math.MinInt} {
			for b := range count {
				limits := make([]int, count)
				limits[b] = v
				list, e := psycho.Masked(zeros[:128], limits, d.short, d.groups)
				fails(t, "Masked by wrong limits", list, e, api.ErrRange)
			}
		}
	}
}

// TestMemory checks that results are memory of their own, and that a change of one has no effect on later calls.
func TestMemory(t *testing.T) {
	c, limits := slices.Repeat([]int{5, 900, 0, 77}, 32), slices.Repeat([]int{3000, 800000}, 4)
	groups := []int{2, 6}
	was, kept := slices.Clone(c), slices.Clone(limits)
	for name, call := range map[string]func() ([]int, api.Errno){
		"Limits": func() ([]int, api.Errno) { return psycho.Limits(c, 48000, 5, true, groups) },
		"Masked": func() ([]int, api.Errno) { return psycho.Masked(c, limits, true, groups) },
	} {
		first, e := call()
		want := slices.Clone(first)
		second, _ := call()
		clear(second[:cap(second)])
		is(t, name, first, e, want)
		third, e := call()
		is(t, name, third, e, want)
		is(t, "the spectrum", c, api.OK, was)
		is(t, "the limits", limits, api.OK, kept)
		is(t, "the groups", groups, api.OK, []int{2, 6})
	}
}
