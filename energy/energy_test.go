package energy_test

import (
	"math"
	"math/rand"
	"slices"
	"testing"

	"shawm/api"
	"shawm/bands"
	"shawm/energy"
)

// division is two arguments of most functions.
type division struct {
	short  bool
	groups []int
}

// divisions are all that there are: the long one, and one for each way to cut eight blocks.
func divisions() []division {
	all := []division{{false, nil}, {false, []int{}}}
	for cuts := range 1 << 7 {
		groups := []int{1}
		for i := range 7 {
			if cuts>>i&1 == 1 {
				groups = append(groups, 1)
			} else {
				groups[len(groups)-1]++
			}
		}
		all = append(all, division{true, groups})
	}
	return all
}

// noDivisions are arguments that are none.
func noDivisions() []division {
	return []division{
		{false, []int{8}}, {false, []int{0}}, {false, []int{1, 7}}, {true, nil}, {true, []int{}}, {true, []int{7}}, {true, []int{9}},
		{true, []int{0, 8}}, {true, []int{-1, 9}}, {true, []int{8, 8}}, {true, []int{math.MaxInt, math.MaxInt, 10}}, {true, slices.Repeat([]int{1}, 1<<16)},
	}
}

// partsOf are the coefficients of c in each band of a division.
func partsOf(t *testing.T, c []int, d division) [][]int {
	t.Helper()
	order, e := bands.Order(d.short, d.groups)
	count, f := bands.Count(d.short, d.groups)
	if e != api.OK || f != api.OK {
		t.Fatalf("%v is no division", d)
	}
	parts := make([][]int, count)
	for b := range parts {
		from, to, _ := bands.Range(b, d.short, d.groups)
		for _, position := range order[from:to] {
			parts[b] = append(parts[b], c[position])
		}
	}
	return parts
}

func energyOf(coefficients []int) int {
	sum := 0
	for _, v := range coefficients {
		sum += v * v
	}
	return sum
}

// spectra are coefficients of many kinds: none but zeros, the greatest, all of one size, single great ones, and noise of many sizes.
func spectra(random *rand.Rand) [][]int {
	all := [][]int{make([]int, 128), slices.Repeat([]int{api.MaxCoef}, 128), slices.Repeat([]int{-api.MaxCoef, api.MaxCoef}, 64), slices.Repeat([]int{1, 0}, 64)}
	single := make([]int, 128)
	single[random.Intn(128)] = api.MaxCoef
	all = append(all, single)
	for i := range 8 {
		c := make([]int, 128)
		most := 1 << (3 * i)
		for k := range c {
			if i%2 == 0 && k%8 == 0 {
				most = 1 << random.Intn(22)
			}
			c[k] = random.Intn(2*most+1) - most
		}
		all = append(all, c)
	}
	return all
}

// is fails unless a call returned that list, without an error.
func is(t *testing.T, name string, list []int, e api.Errno, want []int) {
	t.Helper()
	if e != api.OK || !slices.Equal(list, want) {
		t.Fatalf("%s: %v, %d, want %v", name, list, e, want)
	}
}

// fails fails unless a call returned that error, and no list.
func fails(t *testing.T, name string, list []int, e, want api.Errno) {
	t.Helper()
	if len(list) != 0 || e != want {
		t.Errorf("%s: %v, %d, want the error %d", name, list, e, want)
	}
}

// TestEnergiesByHand has a coefficient at both ends of bands, long ones and those of the groups 1 7.
func TestEnergiesByHand(t *testing.T) {
	c := make([]int, 128)
	c[0], c[3], c[4], c[107], c[108], c[127] = 1, -2, 3, 4, -5, 6
	list, e := energy.Energies(c, false, nil)
	is(t, "Energies", list, e, []int{5, 9, 0, 0, 0, 0, 0, 0, 0, 0, 0, 0, 0, 16, 61})
	list, e = energy.Energies(c, true, []int{1, 7})
	is(t, "Energies", list, e, []int{1, 4, 9, 0, 0, 0, 0, 77})
	list, e = energy.Blocks(c)
	is(t, "Blocks", list, e, []int{14, 0, 0, 0, 0, 0, 41, 36})
	if sum, e := energy.Total(c, false, nil); sum != 91 || e != api.OK {
		t.Errorf("Total: %d, %d", sum, e)
	}
}

// TestEnergies is the promise P11.6 too.
func TestEnergies(t *testing.T) {
	random := rand.New(rand.NewSource(1))
	for _, c := range spectra(random) {
		was := slices.Clone(c)
		for _, d := range divisions() {
			var want []int
			for _, part := range partsOf(t, c, d) {
				want = append(want, energyOf(part))
			}
			list, e := energy.Energies(c, d.short, d.groups)
			is(t, "Energies", list, e, want)
			total, e := energy.Total(c, d.short, d.groups)
			is(t, "Total", []int{total}, e, []int{energyOf(c)})
			sum := 0
			for _, v := range list {
				sum += v
			}
			is(t, "the sum of Energies", []int{sum}, api.OK, []int{total})
		}
		is(t, "the spectrum", c, api.OK, was)
	}
}

func TestBlocks(t *testing.T) {
	random := rand.New(rand.NewSource(2))
	for _, c := range spectra(random) {
		was := slices.Clone(c)
		var want []int
		for block := range 8 {
			want = append(want, energyOf(c[16*block:16*block+16]))
		}
		list, e := energy.Blocks(c)
		is(t, "Blocks", list, e, want)
		is(t, "the spectrum", c, api.OK, was)
	}
}

// calls are the functions that a spectrum is given to, with Total's number as a list: none, if it is zero together with an error.
func calls(c []int, d division) map[string]func() ([]int, api.Errno) {
	return map[string]func() ([]int, api.Errno){
		"Energies": func() ([]int, api.Errno) { return energy.Energies(c, d.short, d.groups) },
		"Tones":    func() ([]int, api.Errno) { return energy.Tones(c, d.short, d.groups) },
		"Total": func() ([]int, api.Errno) {
			total, e := energy.Total(c, d.short, d.groups)
			if e != api.OK && total == 0 {
				return nil, e
			}
			return []int{total}, e
		},
	}
}

// badLists are lists whose elements are no coefficients, in all lengths that are wrong.
func badLists() [][]int {
	all := [][]int{nil, {}, {math.MinInt}, make([]int, 128)[:127], slices.Repeat([]int{math.MaxInt}, 127), slices.Repeat([]int{math.MaxInt}, 129)}
	return append(all, make([]int, 16), make([]int, 256), make([]int, 1<<16))
}

func TestNoDivisions(t *testing.T) {
	for _, d := range noDivisions() {
		lists := append(badLists(), make([]int, 128), slices.Repeat([]int{math.MaxInt}, 128))
		for _, c := range lists {
			for name, call := range calls(c, d) {
				list, e := call()
				fails(t, name, list, e, api.ErrArg)
			}
		}
	}
}

func TestNoSpectra(t *testing.T) {
	for _, c := range badLists() {
		for _, d := range divisions() {
			for name, call := range calls(c, d) {
				list, e := call()
				fails(t, name, list, e, api.ErrForm)
			}
		}
		list, e := energy.Blocks(c)
		fails(t, "Blocks", list, e, api.ErrForm)
	}
}

func TestNoCoefficients(t *testing.T) {
	for _, v := range []int{api.MaxCoef + 1, -api.MaxCoef - 1, math.MaxInt, math.MinInt} {
		for i := range 128 {
			c := make([]int, 128)
			c[i] = v
			for _, d := range []division{{false, nil}, {true, []int{8}}, {true, []int{3, 4, 1}}} {
				for name, call := range calls(c, d) {
					list, e := call()
					fails(t, name, list, e, api.ErrRange)
				}
			}
			list, e := energy.Blocks(c)
			fails(t, "Blocks", list, e, api.ErrRange)
		}
	}
}

// TestMemory checks that results are memory of their own, and that a change of one has no effect on later calls.
func TestMemory(t *testing.T) {
	numbers := []int{5, 900, 0, 77, 15872, 3, 3, 1}
	all := calls(slices.Repeat(numbers, 16), division{true, []int{2, 6}})
	all["Blocks"] = func() ([]int, api.Errno) { return energy.Blocks(slices.Repeat(numbers, 16)) }
	all["Levels"] = func() ([]int, api.Errno) { return energy.Levels(numbers) }
	all["Spread"] = func() ([]int, api.Errno) { return energy.Spread(numbers, 4) }
	was := slices.Clone(numbers)
	for name, call := range all {
		first, e := call()
		kept := slices.Clone(first)
		second, _ := call()
		clear(second[:cap(second)])
		is(t, name, first, e, kept)
		third, e := call()
		is(t, name, third, e, kept)
		is(t, "the numbers", numbers, api.OK, was)
	}
}
