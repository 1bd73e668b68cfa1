package energy_test

import (
	"math"
	"math/rand"
	"slices"
	"testing"

	"shawm/api"
	"shawm/bands"
	"shawm/energy"
	"shawm/fixed"
)

// log is Log of a number that has one.
func log(t *testing.T, n int) int {
	t.Helper()
	level, e := fixed.Log(n)
	if e != api.OK {
		t.Fatalf("%d has no logarithm", n)
	}
	return level
}

// TestLevels is the promise P11.8.
func TestLevels(t *testing.T) {
	energies := []int{0, 2, 16, 64, 1000, 1<<56 - 1, 1 << 56}
	for e := range 57 {
		list, errno := energy.Levels([]int{1<<e - 1})
		is(t, "the level of a power of 2 less 1", list, errno, []int{256 * e})
		energies = append(energies, 1<<e-1, 1<<e)
	}
	random := rand.New(rand.NewSource(3))
	for range 2000 {
		energies = append(energies, random.Intn(1<<56+1)>>random.Intn(57))
	}
	slices.Sort(energies)
	last := 0
	for part := range slices.Chunk(energies, 32) {
		was := slices.Clone(part)
		var want []int
		for _, v := range part {
			want = append(want, log(t, v+1))
		}
		list, e := energy.Levels(part)
		is(t, "Levels", list, e, want)
		if list[0] < last || !slices.IsSorted(list) {
			t.Errorf("the levels %v of %v, after %d, fall", list, part, last)
		}
		last = list[len(list)-1]
		is(t, "the energies", part, api.OK, was)
	}
	list, e := energy.Levels(nil)
	is(t, "Levels of nothing", list, e, nil)
	list, e = energy.Levels([]int{0, 1, 2, 16, 64, 1 << 56})
	is(t, "Levels", list, e, []int{0, 256, 405, 1046, 1541, 14336})
}

func TestLevelErrors(t *testing.T) {
	for _, n := range []int{33, 34, 128, 1 << 16} {
		list, e := energy.Levels(make([]int, n))
		fails(t, "Levels of too many", list, e, api.ErrFull)
		list, e = energy.Levels(slices.Repeat([]int{-1}, n))
		fails(t, "Levels of too many that are wrong", list, e, api.ErrFull)
	}
	for _, v := range []int{-1, 1<<56 + 1, math.MaxInt, math.MinInt} {
		for i := range 32 {
			energies := make([]int, 32)
			energies[i] = v
			list, e := energy.Levels(energies)
			fails(t, "Levels out of range", list, e, api.ErrRange)
			list, e = energy.Levels(energies[i : i+1])
			fails(t, "Levels out of range", list, e, api.ErrRange)
		}
	}
}

// spreadOf are the spread levels, by the chapter's words.
func spreadOf(levels []int, n int) []int {
	var all []int
	for i, level := range levels {
		most := max(level, 0)
		for k := i / n * n; k < i; k++ {
			most = max(most, levels[k]-384*(i-k))
		}
		for k := i + 1; k < i/n*n+n; k++ {
			most = max(most, levels[k]-768*(k-i))
		}
		all = append(all, most)
	}
	return all
}

func TestSpreadByHand(t *testing.T) {
	for _, c := range []struct {
		n            int
		levels, want []int
	}{
		{4, []int{1000, 0, 0, 2000}, []int{1000, 616, 1232, 2000}},
		{1, []int{1000, 0, 0, 2000}, []int{1000, 0, 0, 2000}},
		{2, []int{1000, 0, 0, 2000}, []int{1000, 616, 1232, 2000}},
		{2, []int{0, 2000, 0, 0}, []int{1232, 2000, 0, 0}},
		{3, []int{0, 0, 768, 2000, 0, 0}, []int{0, 0, 768, 2000, 1616, 1232}},
		{3, []int{0, 0, 769, 384, 0, 0}, []int{0, 1, 769, 384, 0, 0}},
		{3, []int{0, 0, 1537, 385, 0, 0}, []int{1, 769, 1537, 385, 1, 0}},
		{15, []int{15872, 0, 0, 0, 0, 0, 0, 0, 0, 0, 0, 0, 0, 0, 15872}, []int{15872, 15488, 15104, 14720, 14336, 13952, 13568, 13184, 12800, 12416, 12800, 13568, 14336, 15104, 15872}},
		{5, nil, nil},
	} {
		list, e := energy.Spread(c.levels, c.n)
		is(t, "Spread", list, e, c.want)
	}
}

// TestSpread is the promise P11.7.
func TestSpread(t *testing.T) {
	random := rand.New(rand.NewSource(4))
	for i := range 20000 {
		n := i%15 + 1
		levels := make([]int, n*random.Intn(32/n+1))
		for k := range levels {
			if random.Intn(3) > 0 {
				levels[k] = random.Intn(15873) >> random.Intn(8)
			}
		}
		was := slices.Clone(levels)
		list, e := energy.Spread(levels, n)
		is(t, "Spread", list, e, spreadOf(levels, n))
		is(t, "the levels", levels, api.OK, was)
		again, e := energy.Spread(list, n)
		is(t, "Spread of Spread", again, e, list)
		if len(levels) == 0 {
			continue
		}
		k := random.Intn(len(levels))
		levels[k] += random.Intn(15873 - levels[k])
		more, e := energy.Spread(levels, n)
		for b := range list {
			if list[b] < was[b] || more[b] < list[b] || e != api.OK {
				t.Fatalf("Spread of %v: %v, of %v: %v", was, list, levels, more)
			}
		}
	}
}

func TestSpreadErrors(t *testing.T) {
	wrong := slices.Repeat([]int{-1}, 33)
	for _, n := range []int{0, -1, 16, 17, 32, math.MaxInt, math.MinInt} {
		for _, levels := range [][]int{nil, {5}, make([]int, 32), make([]int, 34), wrong} {
			list, e := energy.Spread(levels, n)
			fails(t, "Spread in wrong rows", list, e, api.ErrArg)
		}
	}
	for n := 1; n <= 15; n++ {
		for _, levels := range [][]int{wrong, make([]int, 33), make([]int, 60), make([]int, 1<<16)} {
			list, e := energy.Spread(levels, n)
			fails(t, "Spread of too many", list, e, api.ErrFull)
		}
		for count := 1; count <= 32; count++ {
			want := api.ErrForm
			if count%n == 0 {
				want = api.ErrRange
			}
			list, e := energy.Spread(wrong[:count], n)
			fails(t, "Spread of wrong levels", list, e, want)
		}
		for _, v := range []int{-1, 15873, math.MaxInt, math.MinInt} {
			levels := make([]int, 2*n)
			levels[n-1] = v
			list, e := energy.Spread(levels, n)
			fails(t, "Spread of a wrong level", list, e, api.ErrRange)
		}
	}
}

// toneOf is the tone, by the chapter's words.
func toneOf(t *testing.T, coefficients []int) int {
	t.Helper()
	w, s := len(coefficients), 0
	for _, c := range coefficients {
		s += log(t, c*c+1)
	}
	tone := math.Floor(float64(log(t, energyOf(coefficients)/w+1)-s/w) / 8)
	return int(min(max(tone, 0), 255))
}

func TestTonesByHand(t *testing.T) {
	c := make([]int, 128)
	copy(c, []int{8, 0, 0, 0, 1, 1, 1, 0, api.MaxCoef, 0, 0, 0, 5, -5, 5, -5})
	list, e := energy.Tones(c, false, nil)
	is(t, "Tones", list, e, []int{82, 0, 255, 0, 0, 0, 0, 0, 0, 0, 0, 0, 0, 0, 0})
}

func TestTones(t *testing.T) {
	random := rand.New(rand.NewSource(5))
	for range 4 {
		for _, c := range spectra(random) {
			was := slices.Clone(c)
			for _, d := range divisions() {
				var want []int
				for _, part := range partsOf(t, c, d) {
					want = append(want, toneOf(t, part))
				}
				list, e := energy.Tones(c, d.short, d.groups)
				is(t, "Tones", list, e, want)
			}
			is(t, "the spectrum", c, api.OK, was)
		}
	}
}

// TestEvenTones is the promise P11.9: a size for each band, with any signs.
func TestEvenTones(t *testing.T) {
	random := rand.New(rand.NewSource(6))
	for _, d := range divisions() {
		var list []int
		for _, part := range partsOf(t, make([]int, 128), d) {
			size := random.Intn(api.MaxCoef+1) >> random.Intn(22)
			for range part {
				list = append(list, size*(1-2*random.Intn(2)))
			}
		}
		c, _ := bands.Scatter(list, d.short, d.groups)
		tones, e := energy.Tones(c, d.short, d.groups)
		is(t, "Tones of even bands", tones, e, make([]int, len(tones)))
		if count, _ := bands.Count(d.short, d.groups); len(tones) != count {
			t.Errorf("%d tones of %v", len(tones), d)
		}
	}
}
