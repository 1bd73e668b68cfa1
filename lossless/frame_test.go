package lossless_test

import (
	"math"
	"math/rand"
	"slices"
	"strings"
	"testing"

	"shawm/api"
	"shawm/bits"
	"shawm/bittext"
	"shawm/lossless"
)

// floor2 is floor(v / 2).
func floor2(v int) int {
	if v < 0 && v%2 != 0 {
		return v/2 - 1
	}
	return v / 2
}

// middles are those of two channels, and their differences, by the words of chapter 6.
func middles(l, r []int) (m, s []int) {
	for i := range l {
		d := l[i] - r[i]
		m, s = append(m, r[i]+floor2(d)), append(s, d)
	}
	return m, s
}

// frameText is a frame, written, by the chapter's words.
func frameText(t *testing.T, channels [][]int) string {
	t.Helper()
	_, first := bestOf(t, channels[0])
	if len(channels) == 1 {
		return first
	}
	_, second := bestOf(t, channels[1])
	m, s := middles(channels[0], channels[1])
	_, middle := bestOf(t, m)
	_, side := bestOf(t, s)
	if len(middle)+len(side) < len(first)+len(second) {
		return "1" + middle + side
	}
	return "0" + first + second
}

func cloned(channels [][]int) [][]int {
	var all [][]int
	for _, l := range channels {
		all = append(all, slices.Clone(l))
	}
	return all
}

func areEqual(a, b [][]int) bool {
	return slices.EqualFunc(a, b, func(x, y []int) bool { return slices.Equal(x, y) })
}

func areFrames(t *testing.T, name string, got [][]int, e api.Errno, want [][]int) {
	t.Helper()
	if !areEqual(got, want) || e != api.OK {
		t.Errorf("%s: %v, %d, want %v", name, got, e, want)
	}
}

// frames have one channel and two, which are alike or not.
func frames() [][][]int {
	random := rand.New(rand.NewSource(2))
	low, high := slices.Repeat([]int{-32768}, 128), slices.Repeat([]int{32767}, 128)
	all := [][][]int{
		{{7}}, {{0}, {0}}, {make([]int, 128)}, {make([]int, 128), make([]int, 128)}, {low}, {high, low}, {low, high}, {high, high}, {{32767}, {-32768}}, {{-32768}, {32767}}, {{1, 2}, {1, 3}},
		{slices.Repeat([]int{32767, -32768}, 64), slices.Repeat([]int{-32768, 32767}, 64)}, {noise(random, 128, 32767), noise(random, 128, 32767)},
	}
	for i := range 60 {
		n := 128
		if i%4 == 0 {
			n = 1 + random.Intn(128)
		}
		l := clipped(wave(random, n), -32768, 32767)
		r := clipped(wave(random, n), -32768, 32767)
		near := noise(random, n, 1<<random.Intn(8))
		for j := range near {
			near[j] += l[j]
		}
		all = append(all, [][]int{l}, [][]int{l, r}, [][]int{l, clipped(near, -32768, 32767)}, [][]int{l, slices.Clone(l)})
	}
	return all
}

// noFrames are channels that are none.
func noFrames() [][][]int {
	good := []int{1, 2, 3}
	all := [][][]int{
		nil, {}, {nil}, {{}}, {nil, nil}, {{}, {}}, {good, good, good}, {good, nil}, {nil, good}, {good, {1, 2}}, {good, {1, 2, 3, 4}}, {{0}, nil}, {make([]int, 129)}, {make([]int, 129), make([]int, 129)},
		{make([]int, 128), make([]int, 129)}, make([][]int, 1000), slices.Repeat([][]int{good}, 5), {make([]int, 9000)},
	}
	for _, v := range []int{32768, -32769, 65535, 1 << 20, 1 << 40, math.MaxInt, math.MinInt} {
		all = append(all, [][]int{{v}}, [][]int{{0, v}}, [][]int{{v}, {0}}, [][]int{{0}, {v}}, [][]int{{v, v}, {v, v}}, [][]int{append(make([]int, 127), v), make([]int, 128)})
	}
	return all
}

func TestSize(t *testing.T) {
	for _, f := range frames() {
		was := cloned(f)
		size, e := lossless.Size(f)
		is(t, "Size", size, e, len(frameText(t, f)))
		areFrames(t, "the channels", f, e, was)
	}
	size, e := lossless.Size([][]int{make([]int, 128)})
	is(t, "Size of zeros", size, e, 19)
	size, e = lossless.Size([][]int{make([]int, 128), make([]int, 128)})
	is(t, "Size of two channels of zeros", size, e, 39)
	for _, f := range noFrames() {
		if size, e := lossless.Size(f); size != 0 || e != api.ErrArg {
			t.Errorf("Size of %v: %d, %d", f, size, e)
		}
	}
}

// TestSmall is the promise P20.7.
func TestSmall(t *testing.T) {
	for _, f := range frames() {
		one, e := lossless.Size(f[:1])
		two, g := lossless.Size([][]int{f[0], f[0]})
		if e != api.OK || g != api.OK || two > one+20 {
			t.Errorf("Size of %v: %d, %d; of two of them %d, %d", f[0], one, e, two, g)
		}
	}
}

// TestWrite is the promise P20.5, as far as it is about Write.
func TestWrite(t *testing.T) {
	flags := map[byte]int{}
	for _, f := range frames() {
		was := cloned(f)
		w := bits.New()
		w.Put(5, 3)
		text := frameText(t, f)
		if e := lossless.Write(w, f); e != api.OK || bittext.Of(w) != "101"+text {
			t.Fatalf("Write of %v: %s, %d, want %s", f, bittext.Of(w), e, text)
		}
		if size, _ := lossless.Size(f); w.Len() != 3+size {
			t.Errorf("Write of %v adds %d bits, and Size says %d", f, w.Len()-3, size)
		}
		w.Put(2, 2)
		r, _ := bits.Open(w.Bytes(), w.Len())
		r.Get(3)
		back, e := lossless.Read(r, len(f), len(f[0]))
		areFrames(t, "Read of Write", back, e, was)
		areFrames(t, "the channels", f, e, was)
		if r.Left() != 2 {
			t.Errorf("%d bits are left", r.Left())
		}
		if len(f) == 2 {
			flags[text[0]]++
		}
	}
	if flags['0'] < 40 || flags['1'] < 40 {
		t.Errorf("the first bits are %v", flags)
	}
	// Both ways have as many bits: the channels as they are.
	w, nines := &bits.Writer{}, slices.Repeat([]int{9000}, 128)
	if e := lossless.Write(w, [][]int{nines, nines}); e != api.OK || bittext.Of(w) != "0"+strings.Repeat("00"+bittext.Number(9000, 17), 2) {
		t.Errorf("Write of two channels that are constant: %s, %d", bittext.Of(w), e)
	}
}

func TestWriteErrors(t *testing.T) {
	refused := func(w *bits.Writer, f [][]int, want api.Errno) {
		t.Helper()
		n := w.Len()
		if e := lossless.Write(w, f); e != want || w.Len() != n {
			t.Errorf("Write of %v: %d, want the error %d; it adds %d bits", f, e, want, w.Len()-n)
		}
	}
	full := bittext.Filled(0)
	for _, f := range noFrames() {
		refused(bits.New(), f, api.ErrArg)
		refused(full, f, api.ErrArg)
		refused(nil, f, api.ErrArg)
	}
	for _, f := range [][][]int{{{7}}, {{0, 0, 0}}, {{65, -9}}, {{1, 3, 5, 7, 9}, {2, 4, 6, 8, 9}}, {{30000, 3}, {4, 20000}}} {
		refused(nil, f, api.ErrArg)
		n := len(frameText(t, f))
		for room := range n {
			refused(bittext.Filled(room), f, api.ErrFull)
		}
		w := bittext.Filled(n)
		if e := lossless.Write(w, f); e != api.OK || w.Len() != api.MaxBits {
			t.Errorf("Write of %d bits into as many: %d", n, e)
		}
	}
}

// TestBytes is the promise P20.5, as far as it is about Bytes.
func TestBytes(t *testing.T) {
	for _, f := range frames() {
		was := cloned(f)
		w := bits.New()
		lossless.Write(w, f)
		b, e := lossless.Bytes(f)
		if !slices.Equal(b, w.Bytes()) || e != api.OK {
			t.Fatalf("Bytes of %v: %v, %d", f, b, e)
		}
		areFrames(t, "the channels", f, e, was)
		kept := slices.Clone(b)
		back, e := lossless.Samples(b, len(f), len(f[0]))
		areFrames(t, "Samples of Bytes", back, e, was)
		if !slices.Equal(b, kept) {
			t.Errorf("the bytes became %v", b)
		}
	}
	for _, f := range noFrames() {
		if b, e := lossless.Bytes(f); len(b) != 0 || e != api.ErrArg {
			t.Errorf("Bytes of %v: %v, %d", f, b, e)
		}
	}
	if b, e := lossless.Bytes([][]int{make([]int, 128)}); !slices.Equal(b, []byte{0, 0, 0}) || e != api.OK {
		t.Errorf("Bytes of zeros: %v, %d", b, e)
	}
	if b, e := lossless.Bytes([][]int{{7}}); !slices.Equal(b, []byte{0b10_000_00_0, 0b011_01_110}) || e != api.OK {
		t.Errorf("Bytes of 7: %v, %d", b, e)
	}
}
