package bands_test

import (
	"math"
	"math/rand"
	"slices"
	"testing"

	"shawm/api"
	"shawm/bands"
)

// division is the arguments that all functions have.
type division struct {
	short  bool
	groups []int
}

// divisions are all that there are: the long one, and one for each way to cut eight blocks.
func divisions() []division {
	all := []division{{false, nil}, {false, []int{}}}
	for cuts := range 1 << 7 {
		groups := []int{1}
		for i := range 7 {
			if cuts>>i&1 == 1 {
				groups = append(groups, 1)
			} else {
				groups[len(groups)-1]++
			}
		}
		all = append(all, division{true, groups})
	}
	return all
}

// noDivisions are arguments that are none.
func noDivisions() []division {
	return []division{
		{false, []int{8}}, {false, []int{0}}, {false, []int{1, 7}}, {false, []int{128}}, {true, nil}, {true, []int{}},
		{true, []int{7}}, {true, []int{9}}, {true, []int{0, 8}}, {true, []int{8, 0}}, {true, []int{-1, 9}}, {true, []int{9, -1}}, {true, []int{4, 0, 4}},
		{true, []int{1, 1, 1, 1, 1, 1, 1}}, {true, []int{1, 1, 1, 1, 1, 1, 1, 1, 1}}, {true, []int{1, 1, 1, 1, 1, 1, 1, 2}}, {true, []int{8, 8}},
		{true, []int{math.MaxInt, math.MaxInt, 10}}, {true, []int{math.MinInt, math.MinInt, 8}}, {true, []int{math.MinInt, 8}}, {true, []int{8, math.MinInt, math.MinInt}},
		{true, make([]int, 8)}, {true, slices.Repeat([]int{1}, 1<<16)}, {true, append([]int{8}, make([]int, 1000)...)},
	}
}

// widthsOf are the widths of the bands, by the chapter's words.
func widthsOf(d division) []int {
	if !d.short {
		return []int{4, 4, 4, 4, 4, 4, 4, 8, 8, 8, 12, 12, 16, 16, 20}
	}
	var widths []int
	for _, n := range d.groups {
		widths = append(widths, 2*n, 2*n, 4*n, 8*n)
	}
	return widths
}

// orderOf is the order, by the chapter's words: all positions, sorted by group, band, block, and place in the block.
func orderOf(d division) []int {
	order := make([]int, 128)
	for p := range order {
		order[p] = p
	}
	if !d.short {
		return order
	}
	keyOf := func(p int) []int {
		block, at := p/16, p%16
		group := 0
		for rest := block; rest >= d.groups[group]; group++ {
			rest -= d.groups[group]
		}
		band := 0
		for _, end := range []int{2, 4, 8} {
			if at >= end {
				band++
			}
		}
		return []int{group, band, block, at}
	}
	slices.SortFunc(order, func(p, q int) int { return slices.Compare(keyOf(p), keyOf(q)) })
	return order
}

// is fails unless a call returned that list, without an error.
func is(t *testing.T, name string, list []int, e api.Errno, want []int) {
	t.Helper()
	if e != api.OK || !slices.Equal(list, want) {
		t.Fatalf("%s: %v, %d, want %v", name, list, e, want)
	}
}

// fails fails unless a call returned that error, and no list.
func fails(t *testing.T, name string, list []int, e, want api.Errno) {
	t.Helper()
	if len(list) != 0 || e != want {
		t.Errorf("%s: %v, %d, want the error %d", name, list, e, want)
	}
}

// numbers are the results of a call as a list: none, if they are zeros together with an error.
func numbers(e api.Errno, results ...int) ([]int, api.Errno) {
	if e != api.OK && !slices.ContainsFunc(results, func(v int) bool { return v != 0 }) {
		return nil, e
	}
	return results, e
}

func TestExamples(t *testing.T) {
	groups := []int{1, 7}
	widths, e := bands.Widths(true, groups)
	is(t, "Widths", widths, e, []int{2, 2, 4, 8, 14, 14, 28, 56})
	order, e := bands.Order(true, groups)
	if e != api.OK || len(order) != 128 {
		t.Fatalf("Order: %v, %d", order, e)
	}
	is(t, "the beginning of Order", order[:22], e, []int{0, 1, 2, 3, 4, 5, 6, 7, 8, 9, 10, 11, 12, 13, 14, 15, 16, 17, 32, 33, 48, 49})
	is(t, "the end of Order", order[118:], e, []int{110, 111, 120, 121, 122, 123, 124, 125, 126, 127})
	for band, want := range map[int]int{0: 375, 1: 1125, 7: 6000, 14: 22125} {
		if p, e := bands.Pitch(48000, band, false, nil); p != want || e != api.OK {
			t.Errorf("Pitch of the band %d: %d, %d, want %d", band, p, e, want)
		}
	}
}

func TestWidthsAndOrder(t *testing.T) {
	for _, d := range divisions() {
		was := slices.Clone(d.groups)
		widths, e := bands.Widths(d.short, d.groups)
		is(t, "Widths", widths, e, widthsOf(d))
		sum := 0
		for _, width := range widths {
			sum += width
		}
		if sum != 128 {
			t.Errorf("the widths of %v have the sum %d", d, sum)
		}
		if n, e := bands.Count(d.short, d.groups); n != len(widths) || e != api.OK {
			t.Errorf("Count of %v: %d, %d", d, n, e)
		}
		order, e := bands.Order(d.short, d.groups)
		is(t, "Order", order, e, orderOf(d))
		slices.Sort(order)
		for i, p := range order {
			if p != i {
				t.Fatalf("Order of %v has not each position once", d)
			}
		}
		is(t, "the groups", d.groups, api.OK, was)
	}
}

// TestGatherAndScatter is the promise P10.5.
func TestGatherAndScatter(t *testing.T) {
	random := rand.New(rand.NewSource(1))
	for _, d := range divisions() {
		c := make([]int, 128)
		for i := range c {
			c[i] = int(random.Uint64())
		}
		c[5], c[77] = math.MinInt, math.MaxInt
		was, groups := slices.Clone(c), slices.Clone(d.groups)
		var want []int
		for _, p := range orderOf(d) {
			want = append(want, c[p])
		}
		gathered, e := bands.Gather(c, d.short, d.groups)
		is(t, "Gather", gathered, e, want)
		back, e := bands.Scatter(gathered, d.short, d.groups)
		is(t, "Scatter of Gather", back, e, c)
		scattered, e := bands.Scatter(c, d.short, d.groups)
		is(t, "what was gathered", gathered, api.OK, want)
		again, f := bands.Gather(scattered, d.short, d.groups)
		if e != api.OK {
			t.Fatalf("Scatter: %d", e)
		}
		is(t, "Gather of Scatter", again, f, c)
		is(t, "the list", c, api.OK, was)
		is(t, "the groups", d.groups, api.OK, groups)
	}
}

// TestBandAndRange is the promise P10.6.
func TestBandAndRange(t *testing.T) {
	for _, d := range divisions() {
		i := 0
		for band, width := range widthsOf(d) {
			from, to, e := bands.Range(band, d.short, d.groups)
			if from != i || to != i+width || e != api.OK {
				t.Fatalf("Range of %v, %d: %d, %d, %d", d, band, from, to, e)
			}
			for ; i < to; i++ {
				if b, e := bands.Band(i, d.short, d.groups); b != band || e != api.OK {
					t.Fatalf("Band of %v, %d: %d, %d, want %d", d, i, b, e, band)
				}
			}
		}
		if i != 128 {
			t.Errorf("the bands of %v end at %d", d, i)
		}
	}
}

// TestOneGroup is the promise P10.7.
func TestOneGroup(t *testing.T) {
	order, _ := bands.Order(true, []int{8})
	from, to, e := bands.Range(0, true, []int{8})
	if e != api.OK {
		t.Fatalf("Range: %d", e)
	}
	for block := range 8 {
		if !slices.Contains(order[from:to], 16*block) {
			t.Errorf("the first element of the block %d is not in the first band", block)
		}
	}
}

func TestPitch(t *testing.T) {
	for _, rate := range []int{8000, 11025, 12000, 16000, 22050, 24000, 32000, 44100, 48000} {
		for _, d := range divisions() {
			ends, n := []int{0, 2, 4, 8, 16}, 16
			if !d.short {
				ends, n = []int{0, 4, 8, 12, 16, 20, 24, 28, 36, 44, 52, 64, 76, 92, 108, 128}, 128
			}
			for band := range widthsOf(d) {
				b := band % (len(ends) - 1)
				want := (ends[b] + ends[b+1]) * rate / (4 * n)
				if p, e := bands.Pitch(rate, band, d.short, d.groups); p != want || e != api.OK {
					t.Fatalf("Pitch of %d, %d, %v: %d, %d, want %d", rate, band, d, p, e, want)
				}
			}
		}
	}
	for _, c := range []struct{ rate, band, want int }{{8000, 0, 250}, {48000, 3, 18000}, {48000, 7, 18000}, {11025, 1, 1033}, {22050, 4, 689}, {44100, 6, 8268}} {
		if p, e := bands.Pitch(c.rate, c.band, true, []int{3, 5}); p != c.want || e != api.OK {
			t.Errorf("Pitch of %d, %d of short blocks: %d, %d, want %d", c.rate, c.band, p, e, c.want)
		}
	}
}

// allOf calls all functions, and gives what each returned as a list.
func allOf(c []int, i, rate int, d division) map[string]func() ([]int, api.Errno) {
	return map[string]func() ([]int, api.Errno){
		"Widths":  func() ([]int, api.Errno) { return bands.Widths(d.short, d.groups) },
		"Order":   func() ([]int, api.Errno) { return bands.Order(d.short, d.groups) },
		"Count":   func() ([]int, api.Errno) { n, e := bands.Count(d.short, d.groups); return numbers(e, n) },
		"Gather":  func() ([]int, api.Errno) { return bands.Gather(c, d.short, d.groups) },
		"Scatter": func() ([]int, api.Errno) { return bands.Scatter(c, d.short, d.groups) },
		"Band":    func() ([]int, api.Errno) { n, e := bands.Band(i, d.short, d.groups); return numbers(e, n) },
		"Range":   func() ([]int, api.Errno) { a, b, e := bands.Range(i, d.short, d.groups); return numbers(e, a, b) },
		"Pitch":   func() ([]int, api.Errno) { n, e := bands.Pitch(rate, i, d.short, d.groups); return numbers(e, n) },
	}
}

func TestNoDivisions(t *testing.T) {
	for _, d := range noDivisions() {
		for _, c := range [][]int{nil, make([]int, 128), make([]int, 5)} {
			for _, i := range []int{0, -1, 3, 1000} {
				for name, call := range allOf(c, i, 48000, d) {
					list, e := call()
					fails(t, name, list, e, api.ErrArg)
				}
			}
		}
	}
}

func TestListErrors(t *testing.T) {
	for _, d := range divisions() {
		for _, n := range []int{0, 1, 16, 127, 129, 256, 1 << 16} {
			calls := allOf(make([]int, n), 0, 8000, d)
			for _, name := range []string{"Gather", "Scatter"} {
				list, e := calls[name]()
				fails(t, name, list, e, api.ErrForm)
			}
		}
	}
}

func TestNumberErrors(t *testing.T) {
	refused := func(name string, i, rate int, d division, want api.Errno) {
		t.Helper()
		list, e := allOf(nil, i, rate, d)[name]()
		fails(t, name, list, e, want)
	}
	for _, d := range divisions() {
		for _, i := range []int{-1, 128, 129, math.MaxInt, math.MinInt} {
			refused("Band", i, 8000, d, api.ErrRange)
		}
		count := len(widthsOf(d))
		for _, band := range []int{-1, -4, count, count + 1, 128, math.MaxInt, math.MinInt} {
			refused("Range", band, 8000, d, api.ErrRange)
			refused("Pitch", band, 44100, d, api.ErrRange)
		}
		for _, rate := range []int{0, -8000, 1, 7999, 8001, 11024, 44000, 48001, 96000, math.MaxInt, math.MinInt} {
			for _, band := range []int{0, count - 1, -1, count, math.MaxInt} {
				refused("Pitch", band, rate, d, api.ErrArg)
			}
		}
	}
}

// TestMemory checks that results are memory of their own, and that a change of one has no effect on later calls.
func TestMemory(t *testing.T) {
	for _, d := range divisions() {
		c := slices.Clone(orderOf(d))
		for name, call := range allOf(c, 1, 8000, d) {
			was := slices.Clone(c)
			first, e := call()
			kept := slices.Clone(first)
			second, _ := call()
			clear(second[:cap(second)])
			is(t, name, first, e, kept)
			third, e := call()
			is(t, name, third, e, kept)
			is(t, "the list", c, api.OK, was)
		}
	}
}
