package block_test

import (
	"math"
	"math/rand"
	"slices"
	"testing"

	"shawm/api"
	"shawm/block"
	"shawm/lap"
)

// flagLists gives all lists of up to seven flags, and some longer ones.
func flagLists() [][]bool {
	var lists [][]bool
	for n := range 8 {
		for m := range 1 << n {
			flags := make([]bool, n)
			for i := range flags {
				flags[i] = m>>i&1 == 1
			}
			lists = append(lists, flags)
		}
	}
	random := rand.New(rand.NewSource(10))
	for i := range 40 {
		flags := make([]bool, 8+i*57%57)
		for k := range flags {
			flags[k] = random.Intn(2+i%4) == 0
		}
		lists = append(lists, flags)
	}
	return append(lists, make([]bool, 64), slices.Repeat([]bool{true}, 64), slices.Repeat([]bool{true, false}, 32))
}

// shortAt tells whether the frame i is there, and short.
func shortAt(flags []bool, i int) bool { return i >= 0 && i < len(flags) && flags[i] }

// kindsOf are the kinds, by the chapter's words.
func kindsOf(flags []bool) []int {
	var kinds []int
	for i := range flags {
		before, after := shortAt(flags, i-1), shortAt(flags, i+1)
		switch {
		case flags[i]:
			kinds = append(kinds, api.Short)
		case before && after:
			kinds = append(kinds, api.Alone)
		case after:
			kinds = append(kinds, api.Start)
		case before:
			kinds = append(kinds, api.Stop)
		default:
			kinds = append(kinds, api.Long)
		}
	}
	return kinds
}

// framesOf are for each sample the frames on whose coefficients it hangs, from all pairs that are folded by chapter 8.
func framesOf(flags []bool) [][2]int {
	var frames [][2]int
	for i := range 128 * len(flags) {
		frames = append(frames, [2]int{i / 128, i / 128})
	}
	for k := 1; k < len(flags); k++ {
		p, l := 128*k, 128
		if flags[k-1] || flags[k] {
			l = 16
		}
		for i := 0; i <= l/2-1; i++ {
			frames[p-1-i] = [2]int{k - 1, k}
			frames[p+i] = [2]int{k - 1, k}
		}
	}
	return frames
}

func TestKinds(t *testing.T) {
	for _, flags := range flagLists() {
		was := slices.Clone(flags)
		kinds, e := block.Kinds(flags)
		is(t, "Kinds", kinds, e, kindsOf(flags))
		kept := slices.Clone(kinds)
		back, e := block.Of(kinds)
		is(t, "Of of Kinds", back, e, flags)
		is(t, "the flags", flags, api.OK, was)
		is(t, "the kinds", kinds, api.OK, kept)
	}
}

func TestKindsByHand(t *testing.T) {
	for _, c := range []struct {
		flags []bool
		want  []int
	}{
		{[]bool{false}, []int{api.Long}},
		{[]bool{true}, []int{api.Short}},
		{[]bool{false, true}, []int{api.Start, api.Short}},
		{[]bool{true, false}, []int{api.Short, api.Stop}},
		{[]bool{true, false, true}, []int{api.Short, api.Alone, api.Short}},
		{[]bool{false, false, true, true, false, false}, []int{api.Long, api.Start, api.Short, api.Short, api.Stop, api.Long}},
	} {
		kinds, e := block.Kinds(c.flags)
		is(t, "Kinds", kinds, e, c.want)
		flags, e := block.Of(c.want)
		is(t, "Of", flags, e, c.flags)
	}
}

// TestOf has all lists of up to five kinds, right and not.
func TestOf(t *testing.T) {
	right := map[[6]int][]bool{}
	keyOf := func(kinds []int) [6]int {
		key := [6]int{len(kinds)}
		copy(key[1:], kinds)
		return key
	}
	for _, flags := range flagLists() {
		if len(flags) <= 5 {
			right[keyOf(kindsOf(flags))] = flags
		}
	}
	all := [][]int{nil}
	for n := range 6 {
		var longer [][]int
		for _, kinds := range all {
			flags, e := block.Of(kinds)
			if want, ok := right[keyOf(kinds)]; ok {
				is(t, "Of", flags, e, want)
			} else {
				fails(t, "Of of kinds that are not right", flags, e, api.ErrForm)
			}
			for kind := range 5 {
				longer = append(longer, append(slices.Clone(kinds), kind))
			}
		}
		if n < 5 {
			all = longer
		}
	}
}

func TestOfErrors(t *testing.T) {
	for _, v := range []int{-1, 5, 6, math.MaxInt, math.MinInt} {
		for _, kinds := range [][]int{{v}, {api.Long, v}, {v, api.Short}, {api.Alone, api.Start, v}, append(make([]int, 63), v)} {
			flags, e := block.Of(kinds)
			fails(t, "Of of what is no kind", flags, e, api.ErrArg)
		}
	}
	for _, kinds := range [][]int{make([]int, 65), slices.Repeat([]int{-1}, 65), slices.Repeat([]int{api.Alone}, 1000)} {
		flags, e := block.Of(kinds)
		fails(t, "Of of too many", flags, e, api.ErrFull)
	}
	flags, e := block.Of(append(make([]int, 63), api.Stop))
	fails(t, "Of of kinds that are not right at the end", flags, e, api.ErrForm)
}

func TestEither(t *testing.T) {
	lists := flagLists()
	for k, a := range lists {
		b := lists[(7*k+3)%len(lists)]
		flags, e := block.Either(a, b)
		if len(a) != len(b) {
			fails(t, "Either of other lengths", flags, e, api.ErrForm)
			b = slices.Repeat([]bool{false, true, true}, 22)[:len(a)]
			flags, e = block.Either(a, b)
		}
		wasA, wasB := slices.Clone(a), slices.Clone(b)
		want := make([]bool, len(a))
		for i := range want {
			want[i] = a[i] || b[i]
		}
		is(t, "Either", flags, e, want)
		is(t, "the first one", a, api.OK, wasA)
		is(t, "the second one", b, api.OK, wasB)
	}
	flags, e := block.Either([]bool{false, false, true, true}, []bool{false, true, false, true})
	is(t, "Either", flags, e, []bool{false, true, true, true})
}

func TestEitherErrors(t *testing.T) {
	long := make([]bool, 65)
	for _, c := range [][2][]bool{{long, long}, {long, nil}, {nil, long}, {long, make([]bool, 64)}, {make([]bool, 64), make([]bool, 1000)}} {
		flags, e := block.Either(c[0], c[1])
		fails(t, "Either of too many", flags, e, api.ErrFull)
	}
	for _, c := range [][2][]bool{{nil, {true}}, {{false}, nil}, {make([]bool, 64), make([]bool, 63)}} {
		flags, e := block.Either(c[0], c[1])
		fails(t, "Either of other lengths", flags, e, api.ErrForm)
	}
	flags, e := block.Either(nil, []bool{})
	is(t, "Either of none", flags, e, nil)
}

// TestEitherMemory checks that a result is memory of its own.
func TestEitherMemory(t *testing.T) {
	a, b := []bool{true, false}, []bool{false, false}
	flags, _ := block.Either(a, b)
	clear(flags)
	if !a[0] || b[0] {
		t.Error("Either shares memory")
	}
	again, _ := block.Either(a, a)
	clear(again)
	if !a[0] {
		t.Error("Either shares memory")
	}
}

func TestLayoutAndLaps(t *testing.T) {
	for _, flags := range flagLists() {
		was := slices.Clone(flags)
		var layout, laps []int
		for i, short := range flags {
			if short {
				layout = append(layout, 16, 16, 16, 16, 16, 16, 16, 16)
			} else {
				layout = append(layout, 128)
			}
			if i > 0 && (short || flags[i-1]) {
				laps = append(laps, 16)
			} else if i > 0 {
				laps = append(laps, 128)
			}
		}
		list, e := block.Layout(flags)
		is(t, "Layout", list, e, layout)
		list, e = block.Laps(flags)
		is(t, "Laps", list, e, laps)
		is(t, "the flags", flags, api.OK, was)
	}
}

func TestTooManyFlags(t *testing.T) {
	for _, n := range []int{65, 66, 128, 1 << 16} {
		flags := make([]bool, n)
		kinds, e := block.Kinds(flags)
		fails(t, "Kinds", kinds, e, api.ErrFull)
		layout, e := block.Layout(flags)
		fails(t, "Layout", layout, e, api.ErrFull)
		laps, e := block.Laps(flags)
		fails(t, "Laps", laps, e, api.ErrFull)
		for _, i := range []int{0, -1, 128 * n} {
			if from, to, e := block.Frames(flags, i); from != 0 || to != 0 || e != api.ErrFull {
				t.Errorf("Frames of %d flags: %d, %d, %d", n, from, to, e)
			}
			if first, last, e := block.Exact(flags, 0, i); first != 0 || last != 0 || e != api.ErrFull {
				t.Errorf("Exact of %d flags: %d, %d, %d", n, first, last, e)
			}
		}
	}
}

func TestFrames(t *testing.T) {
	for _, flags := range flagLists() {
		was := slices.Clone(flags)
		for i, want := range framesOf(flags) {
			from, to, e := block.Frames(flags, i)
			if from != want[0] || to != want[1] || e != api.OK {
				t.Fatalf("Frames of %v, %d: %d, %d, %d, want %v", flags, i, from, to, e, want)
			}
		}
		for _, i := range []int{-1, 128 * len(flags), 128*len(flags) + 1, math.MaxInt, math.MinInt} {
			if from, to, e := block.Frames(flags, i); from != 0 || to != 0 || e != api.ErrRange {
				t.Errorf("Frames of %d flags, %d: %d, %d, %d", len(flags), i, from, to, e)
			}
		}
		is(t, "the flags", flags, api.OK, was)
	}
}

func TestExactExamples(t *testing.T) {
	for _, c := range []struct {
		flags                 []bool
		from, to, first, last int
	}{
		{make([]bool, 3), 1, 2, 128, 128}, {make([]bool, 3), 1, 3, 192, 384}, {make([]bool, 3), 0, 3, 0, 384},
		{make([]bool, 3), 0, 1, 0, 64}, {make([]bool, 3), 0, 0, 0, 0}, {make([]bool, 3), 3, 3, 384, 384}, {make([]bool, 3), 2, 2, 256, 256},
		{[]bool{false, true, false}, 1, 2, 136, 248}, {[]bool{false, true, false}, 0, 1, 0, 120}, {[]bool{false, true, false}, 2, 3, 264, 384},
		{[]bool{true, true}, 0, 1, 0, 120}, {[]bool{true, true}, 1, 1, 128, 128}, {[]bool{false, false, true}, 1, 2, 192, 248},
		{[]bool{true, false, true}, 1, 2, 136, 248}, {nil, 0, 0, 0, 0}, {[]bool{true}, 0, 1, 0, 128},
	} {
		first, last, e := block.Exact(c.flags, c.from, c.to)
		if first != c.first || last != c.last || e != api.OK {
			t.Errorf("Exact of %v, %d, %d: %d, %d, %d, want %d, %d", c.flags, c.from, c.to, first, last, e, c.first, c.last)
		}
	}
}

// TestExact is the promise P9.8, for all ranges of frames.
func TestExact(t *testing.T) {
	for _, flags := range flagLists() {
		was := slices.Clone(flags)
		frames := framesOf(flags)
		for from := range len(flags) + 1 {
			for to := from; to <= len(flags); to++ {
				first, last, e := block.Exact(flags, from, to)
				if e != api.OK || first == last && first != 128*from || first > last {
					t.Fatalf("Exact of %v, %d, %d: %d, %d, %d", flags, from, to, first, last, e)
				}
				for i, f := range frames {
					if within := f[0] >= from && f[1] < to; within != (i >= first && i < last) {
						t.Fatalf("Exact of %v, %d, %d: %d, %d, but %d hangs on %v", flags, from, to, first, last, i, f)
					}
				}
			}
		}
		is(t, "the flags", flags, api.OK, was)
	}
}

func TestExactErrors(t *testing.T) {
	for _, c := range [][2]int{{-1, 0}, {-1, -1}, {0, 4}, {4, 4}, {2, 1}, {3, 0}, {1, -1}, {math.MinInt, math.MaxInt}, {0, math.MaxInt}, {math.MaxInt, math.MaxInt}, {math.MinInt, math.MinInt}, {math.MaxInt, math.MinInt}} {
		if first, last, e := block.Exact([]bool{false, true, false}, c[0], c[1]); first != 0 || last != 0 || e != api.ErrRange {
			t.Errorf("Exact of %v: %d, %d, %d", c, first, last, e)
		}
	}
	if first, last, e := block.Exact(nil, 0, 1); first != 0 || last != 0 || e != api.ErrRange {
		t.Errorf("Exact of no frames: %d, %d, %d", first, last, e)
	}
}

// damaged is a spectrum with other coefficients in all frames but from, .. , to - 1.
func damaged(random *rand.Rand, c []int, from, to int) []int {
	wrong := slices.Clone(c)
	for i := range wrong {
		if i < 128*from || i >= 128*to {
			wrong[i] = random.Intn(2000001) - 1000000
		}
	}
	return wrong
}

// TestExactOfLap decodes several times with other coefficients in all frames that are not known: samples that are exact never change, the ones beside them do.
func TestExactOfLap(t *testing.T) {
	random := rand.New(rand.NewSource(11))
	for _, flags := range flagLists() {
		if len(flags) > 4 {
			continue
		}
		n := 128 * len(flags)
		layout, _ := block.Layout(flags)
		c := damaged(random, make([]int, n), 0, 0)
		right, e := lap.Inverse(c, layout)
		if e != api.OK {
			t.Fatalf("Inverse with the layout of %v: %d", flags, e)
		}
		for from := range len(flags) + 1 {
			for to := from; to <= len(flags); to++ {
				first, last, _ := block.Exact(flags, from, to)
				changed := make([]bool, n)
				for range 4 {
					x, _ := lap.Inverse(damaged(random, c, from, to), layout)
					is(t, "the samples that are exact", x[first:last], api.OK, right[first:last])
					for i := range changed {
						changed[i] = changed[i] || x[i] != right[i]
					}
				}
				if first < last && (first > 0 && !changed[first-1] || last < n && !changed[last]) {
					t.Errorf("flags %v, frames %d to %d: samples beside %d to %d are exact", flags, from, to, first, last)
				}
			}
		}
	}
}
