package block_test

import (
	"math"
	"math/rand"
	"slices"
	"testing"

	"shawm/api"
	"shawm/block"
)

// energiesOf are the energies of all parts, by the chapter's words.
func energiesOf(x []int) []int {
	var energies []int
	for j := 0; 16*j < len(x); j++ {
		energy := 0
		for i := 16 * j; i < 16*j+16; i++ {
			d := x[i]
			if i > 0 {
				d -= x[i-1]
			}
			energy += d * d
		}
		energies = append(energies, energy)
	}
	return energies
}

// boundAt is what the energy of the part j must be above for an attack, by the chapter's words.
func boundAt(energies []int, j int) int {
	at := func(j int) int {
		if j < 0 {
			return 0
		}
		return energies[j]
	}
	return 8*((at(j-1)+at(j-2)+at(j-3)+at(j-4))/4) + 65536
}

// attacksOf are the parts with these energies at which an attack is.
func attacksOf(energies []int) []int {
	var attacks []int
	for j, energy := range energies {
		if energy > boundAt(energies, j) {
			attacks = append(attacks, j)
		}
	}
	return attacks
}

// flagsOf are the flags of so many frames with these attacks.
func flagsOf(frames int, attacks []int) []bool {
	flags := make([]bool, frames)
	for _, j := range attacks {
		flags[j/8] = true
	}
	return flags
}

// samplesOf has so many frames, with parts that are louder than others.
func samplesOf(random *rand.Rand, frames int) []int {
	x := make([]int, 128*frames)
	most := 0
	for i := range x {
		if i%16 == 0 && random.Intn(3) == 0 {
			most = 1 << random.Intn(17)
		}
		x[i] = random.Intn(2*most+1) - most
	}
	return x
}

// samplesWith has parts with these energies: the differences of a part are the greatest squares that are left, up and down.
func samplesWith(t *testing.T, energies []int) []int {
	t.Helper()
	var x []int
	last := 0
	for _, energy := range energies {
		for range 16 {
			d := int(math.Sqrt(float64(energy)))
			energy -= d * d
			if last > 0 {
				d = -d
			}
			last += d
			x = append(x, last)
		}
		if energy != 0 {
			t.Fatalf("16 differences are too few for energies of %v", energies)
		}
	}
	return x
}

// is fails unless a call returned that list, without an error.
func is[T comparable](t *testing.T, name string, list []T, e api.Errno, want []T) {
	t.Helper()
	if e != api.OK || !slices.Equal(list, want) {
		t.Fatalf("%s: %v, %d, want %v", name, list, e, want)
	}
}

// fails fails unless a call returned that error, and no list.
func fails[T any](t *testing.T, name string, list []T, e, want api.Errno) {
	t.Helper()
	if len(list) != 0 || e != want {
		t.Errorf("%s: %v, %d, want the error %d", name, list, e, want)
	}
}

func TestAttackExample(t *testing.T) {
	x := make([]int, 256)
	x[128] = 1000
	parts, e := block.Parts(x)
	want := make([]int, 16)
	want[8] = 2000000
	is(t, "Parts", parts, e, want)
	attacks, e := block.Attacks(x)
	is(t, "Attacks", attacks, e, []int{8})
	flags, e := block.Flags(x)
	is(t, "Flags", flags, e, []bool{false, true})
	kinds, e := block.Kinds(flags)
	is(t, "Kinds", kinds, e, []int{api.Start, api.Short})
}

// TestPartEdges has differences at the ends of parts: one between two parts belongs to the second one.
func TestPartEdges(t *testing.T) {
	x := make([]int, 128)
	x[0], x[15], x[31], x[32], x[127] = 3, 5, 7, 7, -2
	parts, e := block.Parts(x)
	is(t, "Parts", parts, e, []int{9 + 9 + 25, 25 + 49, 49, 0, 0, 0, 0, 4})
	x = slices.Repeat([]int{65536, -65536}, 4096)
	parts, e = block.Parts(x)
	want := slices.Repeat([]int{16 << 34}, 512)
	want[0] = 15<<34 + 1<<32
	is(t, "Parts of the greatest samples", parts, e, want)
}

func TestNoSamples(t *testing.T) {
	for _, nothing := range [][]int{nil, {}} {
		parts, e := block.Parts(nothing)
		is(t, "Parts", parts, e, nil)
		attacks, e := block.Attacks(nothing)
		is(t, "Attacks", attacks, e, nil)
		flags, e := block.Flags(nothing)
		is(t, "Flags", flags, e, nil)
	}
}

// TestBound has the energies at which just no attack is, and just one is, also where the four parts before have a sum that is no multiple of 4, or are not all there.
func TestBound(t *testing.T) {
	random := rand.New(rand.NewSource(1))
	for i := range 400 {
		energies := make([]int, 16)
		j := i % 16
		for k := range j {
			energies[k] = random.Intn(1 << random.Intn(24))
		}
		bound := boundAt(energies, j)
		for more := range 2 {
			energies[j] = bound + more
			x := samplesWith(t, energies)
			parts, e := block.Parts(x)
			is(t, "Parts", parts, e, energies)
			attacks, e := block.Attacks(x)
			is(t, "Attacks", attacks, e, attacksOf(energies))
			if slices.Contains(attacks, j) != (more == 1) {
				t.Errorf("the part %d of %v: the attacks %v", j, energies, attacks)
			}
			flags, e := block.Flags(x)
			is(t, "Flags", flags, e, flagsOf(2, attacks))
		}
	}
}

// TestBoundByHand has the same with numbers that are told.
func TestBoundByHand(t *testing.T) {
	for _, c := range []struct{ energies, want []int }{
		{[]int{65536, 0, 0, 0, 0, 0, 0, 0}, nil},
		{[]int{65537, 0, 0, 0, 0, 0, 0, 0}, []int{0}},
		{[]int{3, 65536, 0, 0, 0, 0, 0, 0}, nil},
		{[]int{3, 65537, 0, 0, 0, 0, 0, 0}, []int{1}},
		{[]int{4, 65544, 0, 0, 0, 0, 0, 0}, nil},
		{[]int{4, 65545, 0, 0, 0, 0, 0, 0}, []int{1}},
		{[]int{4, 0, 0, 0, 65544, 0, 0, 0}, nil},
		{[]int{4, 0, 0, 0, 65545, 0, 0, 0}, []int{4}},
		{[]int{4, 0, 0, 0, 0, 65536, 0, 0}, nil},
		{[]int{4, 0, 0, 0, 0, 65537, 0, 0}, []int{5}},
		{[]int{100, 101, 102, 100, 66336, 0, 0, 0}, nil},
		{[]int{100, 101, 102, 100, 66337, 0, 0, 0}, []int{4}},
		{[]int{0, 0, 0, 0, 0, 0, 70000, 205537}, []int{6, 7}},
		{[]int{0, 0, 0, 0, 0, 0, 70000, 205536}, []int{6}},
	} {
		attacks, e := block.Attacks(samplesWith(t, c.energies))
		is(t, "Attacks", attacks, e, c.want)
	}
}

func TestSamples(t *testing.T) {
	random := rand.New(rand.NewSource(2))
	for i := range 300 {
		x := samplesOf(random, i%65)
		was := slices.Clone(x)
		energies := energiesOf(x)
		parts, e := block.Parts(x)
		is(t, "Parts", parts, e, energies)
		attacks, e := block.Attacks(x)
		is(t, "Attacks", attacks, e, attacksOf(energies))
		flags, e := block.Flags(x)
		is(t, "Flags", flags, e, flagsOf(i%65, attacks))
		is(t, "the samples", x, api.OK, was)
	}
}

// TestEachPart has one attack alone, in each part of a frame.
func TestEachPart(t *testing.T) {
	for j := range 24 {
		x := make([]int, 384)
		for i := 16 * j; i < len(x); i++ {
			x[i] = -3000
		}
		attacks, e := block.Attacks(x)
		is(t, "Attacks", attacks, e, []int{j})
		flags, e := block.Flags(x)
		is(t, "Flags", flags, e, flagsOf(3, []int{j}))
	}
}

// TestQuiet is the promise P9.7.
func TestQuiet(t *testing.T) {
	for _, v := range []int{0, 1, -1, 256, -256, 257, -257, 1000, 32767, -32768, 65536, -65536} {
		for _, frames := range []int{1, 3, 64} {
			attacks, e := block.Attacks(slices.Repeat([]int{v}, 128*frames))
			var want []int
			if max(v, -v) > 256 {
				want = []int{0}
			}
			is(t, "Attacks of samples that are all the same", attacks, e, want)
		}
	}
	random := rand.New(rand.NewSource(3))
	for range 100 {
		x := samplesOf(random, 4)
		before, e := block.Attacks(x)
		part := random.Intn(32)
		for i := 16*part + 16; i < len(x); i++ {
			x[i] = random.Intn(131073) - 65536
		}
		after, f := block.Attacks(x)
		upTo := func(attacks []int) []int {
			return slices.DeleteFunc(attacks, func(j int) bool { return j > part })
		}
		if e != api.OK || f != api.OK || !slices.Equal(upTo(before), upTo(after)) {
			t.Errorf("attacks up to the part %d hang on samples after it", part)
		}
	}
}

func TestSampleErrors(t *testing.T) {
	refused := func(x []int, want api.Errno) {
		t.Helper()
		parts, e := block.Parts(x)
		fails(t, "Parts", parts, e, want)
		attacks, e := block.Attacks(x)
		fails(t, "Attacks", attacks, e, want)
		flags, e := block.Flags(x)
		fails(t, "Flags", flags, e, want)
	}
	for _, n := range []int{1, 15, 16, 64, 127, 129, 192, 255, 257, 8191, 8193, 8192 + 16, 8192 + 128, 16384, 1 << 18} {
		refused(make([]int, n), api.ErrArg)
		x := make([]int, n)
		x[n/2] = 65537
		refused(x, api.ErrArg)
	}
	for _, n := range []int{128, 256, 8192} {
		for _, v := range []int{65537, -65537, math.MaxInt, math.MinInt} {
			for _, i := range []int{0, 1, n / 2, n - 1} {
				x := make([]int, n)
				x[i] = v
				refused(x, api.ErrRange)
			}
		}
		for _, v := range []int{65536, -65536} {
			x := slices.Repeat([]int{v}, n)
			if _, e := block.Flags(x); e != api.OK {
				t.Errorf("%d is refused: %d", v, e)
			}
		}
	}
}
