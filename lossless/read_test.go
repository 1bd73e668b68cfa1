package lossless_test

import (
	"math"
	"math/rand"
	"slices"
	"strings"
	"testing"

	"shawm/api"
	"shawm/bits"
	"shawm/bittext"
	"shawm/linear"
	"shawm/lossless"
	"shawm/rice"
)

func areFrom(x []int, low, high int) bool { return slices.Min(x) >= low && slices.Max(x) <= high }

// readPlan reads a signal, by the chapter's words; the reader may stop anywhere.
func readPlan(r *bits.Reader, n int) ([]int, api.Errno) {
	kind, e := r.Get(2)
	if e != api.OK {
		return nil, api.ErrShort
	}
	x := make([]int, n)
	if kind < 2 {
		for i := range x {
			if kind == 0 && i > 0 {
				x[i] = x[0]
			} else if x[i], e = r.Signed(17); e != api.OK {
				return nil, api.ErrShort
			}
		}
		return x, api.OK
	}
	order, e := r.Get(kind + 1)
	if e != api.OK {
		return nil, api.ErrShort
	}
	if kind == 2 && order > 4 || kind == 3 && (order == 0 || order > 12) {
		return nil, api.ErrForm
	}
	filter := make([]int, 0, 12)
	for kind == 3 && len(filter) < order {
		k, e := r.Signed(8)
		if e != api.OK {
			return nil, api.ErrShort
		}
		if k == -128 {
			return nil, api.ErrForm
		}
		filter = append(filter, k)
	}
	d, e := rice.Read(r, n)
	if e != api.OK {
		return nil, e
	}
	if kind == 2 {
		x, e = linear.Add(d, order)
	} else {
		x, e = linear.Restore(d, filter)
	}
	if e == api.OK && !areFrom(x, -65536, 65535) {
		return nil, api.ErrRange
	}
	return x, e
}

// read is Read by the chapter's words; the reader may stop anywhere.
func read(r *bits.Reader, channels, n int) ([][]int, api.Errno) {
	flag := 0
	if channels == 2 {
		bit, e := r.Get(1)
		if e != api.OK {
			return nil, api.ErrShort
		}
		flag = bit
	}
	var all [][]int
	for range channels {
		x, e := readPlan(r, n)
		if e != api.OK {
			return nil, e
		}
		all = append(all, x)
	}
	for i := 0; flag == 1 && i < n; i++ {
		m, s := all[0][i], all[1][i]
		all[1][i] = m - floor2(s)
		all[0][i] = all[1][i] + s
	}
	for _, x := range all {
		if !areFrom(x, -32768, 32767) {
			return nil, api.ErrRange
		}
	}
	return all, api.OK
}

// anyText is a frame that is written with any plans, and any filters.
func anyText(t *testing.T, random *rand.Rand, f [][]int) string {
	t.Helper()
	s := ""
	if len(f) == 2 {
		flag := random.Intn(2)
		if flag == 1 {
			m, d := middles(f[0], f[1])
			f = [][]int{m, d}
		}
		s = bittext.Number(flag, 1)
	}
	for _, x := range f {
		p := plans()[1+random.Intn(18)]
		if p.kind != 3 || random.Intn(2) == 0 {
			s += p.text(t, x)
			continue
		}
		s += "11" + bittext.Number(p.order, 4) + filtered(t, x, noise(random, p.order, 127>>random.Intn(7)))
	}
	return s
}

// compare compares Read of digits with what is wanted, and returns the error.
func compare(t *testing.T, s string, channels, n int) api.Errno {
	t.Helper()
	other := bittext.Open(s)
	want, f := read(other, channels, n)
	at := 2
	if f == api.OK {
		at += other.At()
	}
	r := bittext.Open("10" + s)
	r.Get(2)
	got, e := lossless.Read(r, channels, n)
	if !areEqual(got, want) || e != f || r.At() != at {
		t.Fatalf("Read of %s for %d times %d: %v, %d, to %d, want %v, %d, to %d", s, channels, n, got, e, r.At(), want, f, at)
	}
	return e
}

// TestRead reads what is written with the least bits and with others, cut at each bit, with other bits, and for other lengths. That is the promise P20.8 too.
func TestRead(t *testing.T) {
	random := rand.New(rand.NewSource(3))
	errors := map[api.Errno]int{}
	for i, f := range frames() {
		s, n := anyText(t, random, f), len(f[0])
		r := bittext.Open(s)
		back, e := lossless.Read(r, len(f), n)
		areFrames(t, "Read of any plans", back, e, f)
		if r.Left() != 0 {
			t.Errorf("%d bits are left", r.Left())
		}
		for _, s := range []string{s, frameText(t, f)} {
			for at := range s {
				if i < 13 || at < 40 || random.Intn(100) == 0 {
					errors[compare(t, s[:at], len(f), n)]++
				}
				if i < 13 || at < 30 || random.Intn(50) == 0 {
					errors[compare(t, s[:at]+bittext.Number(1-int(s[at]-'0'), 1)+s[at+1:], len(f), n)]++
				}
			}
			errors[compare(t, s, 3-len(f), n)]++
			errors[compare(t, s, len(f), 1+random.Intn(128))]++
		}
	}
	for range 3000 {
		var s strings.Builder
		for range random.Intn(300) {
			s.WriteString(bittext.Number(random.Intn(2), 1))
		}
		errors[compare(t, s.String(), 1+random.Intn(2), 1+random.Intn(12))]++
	}
	if errors[api.OK] == 0 || errors[api.ErrShort] == 0 || errors[api.ErrForm] == 0 || errors[api.ErrRange] == 0 || len(errors) != 4 {
		t.Errorf("not all errors were seen: %v", errors)
	}
}

// TestReadNumbers has numbers at the ends of their ranges.
func TestReadNumbers(t *testing.T) {
	differences := func(order int, l ...int) string {
		return "10" + bittext.Number(order, 3) + inParts(t, l)
	}
	filter := func(k []int, l ...int) string {
		return "11" + bittext.Number(len(k), 4) + numbers(k, 8) + inParts(t, l)
	}
	constant := func(v int) string { return "00" + bittext.Number(v, 17) }
	zeros := strings.Repeat("0", 25)
	for _, c := range []struct {
		s           string
		channels, n int
		want        api.Errno
	}{
		{constant(32767), 1, 9, api.OK}, {constant(-32768), 1, 9, api.OK}, {constant(32768), 1, 9, api.ErrRange}, {constant(-32769), 1, 9, api.ErrRange},
		{"01" + numbers([]int{1, 32767}, 17), 1, 2, api.OK}, {"01" + numbers([]int{1, 32768}, 17), 1, 2, api.ErrRange}, {"01" + numbers([]int{-65536, 1}, 17), 1, 2, api.ErrRange},
		{differences(1, 30000, 2767), 1, 2, api.OK}, {differences(1, 30000, 2768), 1, 2, api.ErrRange}, {differences(2, 1, 1, 1, 1), 1, 4, api.OK},
		{differences(0, 1<<26+1), 1, 1, api.ErrRange}, {differences(0, 1<<21+1), 1, 1, api.ErrRange}, {differences(1, 1<<21, -1<<21), 1, 2, api.ErrRange}, {differences(0, -1<<31), 1, 1, api.ErrRange},
		{filter([]int{127, -127}, 5, 5, 5), 1, 3, api.OK}, {filter([]int{0}, 32768), 1, 1, api.ErrRange}, {filter([]int{0}, 1<<21+1), 1, 1, api.ErrRange}, {filter([]int{-127}, 1<<31-1, 0), 1, 2, api.ErrRange},
		{filter(make([]int, 12), 0), 1, 1, api.OK}, {filter(make([]int, 13), 0), 1, 1, api.ErrForm}, {filter(make([]int, 15), 0), 1, 1, api.ErrForm}, {filter(nil, 0), 1, 1, api.ErrForm},
		{filter([]int{-128}, 0), 1, 1, api.ErrForm}, {filter([]int{5, -128}, 0), 1, 1, api.ErrForm},
		// What is wrong comes before what is not there behind it.
		{"11" + "0010" + "10000000", 1, 1, api.ErrForm}, {"11" + "0010" + "10000001", 1, 1, api.ErrShort}, {"11" + "1101", 1, 1, api.ErrForm}, {"11" + "110", 1, 1, api.ErrShort}, {"11" + "0000", 1, 1, api.ErrForm},
		{"10" + "101", 1, 1, api.ErrForm}, {"10" + "111", 1, 1, api.ErrForm}, {"10" + "10", 1, 1, api.ErrShort}, {"10" + "100", 1, 1, api.ErrShort},
		// The errors of layer 5: a parameter, a word, an order.
		{"10" + "000" + "00" + "1111", 1, 1, api.ErrForm}, {"10" + "000" + "00" + "0000" + zeros, 1, 1, api.ErrForm}, {"10" + "000" + "01" + "0000", 1, 3, api.ErrForm}, {"10" + "000" + "01", 1, 4, api.ErrShort},
		{"11" + "0001" + "00000000" + "00" + "1111", 1, 1, api.ErrForm}, {"11" + "0001" + "00000000" + "11" + "0000", 1, 4, api.ErrForm}, {"11" + "0001" + "00000000" + "0", 1, 1, api.ErrShort},
		// Of two channels a signal may have elements that are no samples, if the channels are.
		{"1" + constant(-1) + constant(65535), 2, 5, api.OK}, {"1" + constant(0) + constant(-65535), 2, 5, api.ErrRange}, {"1" + constant(-1) + constant(-65535), 2, 5, api.OK}, {"1" + constant(-1) + constant(-65536), 2, 5, api.ErrRange},
		{"1" + constant(0) + constant(65535), 2, 5, api.ErrRange}, {"1" + constant(32767) + constant(1), 2, 1, api.ErrRange}, {"1" + constant(32767) + constant(0), 2, 1, api.OK}, {"1" + constant(-32768) + constant(-1), 2, 1, api.OK}, {"1" + constant(-32768) + constant(-2), 2, 1, api.ErrRange},
		{"0" + constant(32768) + constant(0), 2, 1, api.ErrRange}, {"0" + constant(0) + constant(-32769), 2, 1, api.ErrRange}, {"0" + constant(5) + constant(-5), 2, 128, api.OK},
		// Whether all are samples is asked at the end, and whether all of one are a signal's before the other one.
		{"0" + constant(40000) + "0", 2, 1, api.ErrShort}, {"0" + constant(40000) + "10" + "101", 2, 1, api.ErrForm}, {"0" + differences(0, 65536) + "0", 2, 1, api.ErrRange}, {"0" + differences(0, 65535) + "0", 2, 1, api.ErrShort},
		{"0" + differences(0, -65537), 2, 1, api.ErrRange}, {"0" + filter([]int{9}, 65536), 2, 1, api.ErrRange}, {"0" + filter([]int{9}, -65536), 2, 1, api.ErrShort}, {"1" + filter([]int{9}, 1<<22) + "11" + "0000", 2, 1, api.ErrRange},
		{"", 1, 1, api.ErrShort}, {"", 2, 1, api.ErrShort}, {"0", 2, 1, api.ErrShort}, {"1", 2, 128, api.ErrShort}, {"0", 1, 1, api.ErrShort}, {"1" + "0", 2, 1, api.ErrShort},
	} {
		if e := compare(t, c.s, c.channels, c.n); e != c.want {
			t.Errorf("Read of %s for %d times %d: %d, want the error %d", c.s, c.channels, c.n, e, c.want)
		}
	}
	l, e := lossless.Read(bittext.Open("1"+constant(-1)+constant(65535)), 2, 2)
	areFrames(t, "Read of the farthest channels", l, e, [][]int{{32767, 32767}, {-32768, -32768}})
}

// notShapes are numbers of channels, and of samples, that no frame has.
func notShapes() [][2]int {
	all := [][2]int{{0, 1}, {3, 1}, {-1, 1}, {1, 0}, {2, 0}, {1, 129}, {2, 129}, {1, -1}, {0, 0}, {128, 1}}
	for _, v := range []int{1 << 40, math.MaxInt, math.MinInt} {
		all = append(all, [2]int{v, 1}, [2]int{1, v}, [2]int{2, v}, [2]int{v, v})
	}
	return all
}

func TestReadErrors(t *testing.T) {
	for _, s := range notShapes() {
		r := bittext.Open("1" + strings.Repeat("0", 100))
		r.Get(1)
		if l, e := lossless.Read(r, s[0], s[1]); len(l) != 0 || e != api.ErrArg || r.At() != 1 {
			t.Errorf("Read of %v: %v, %d, it stops at %d", s, l, e, r.At())
		}
		if l, e := lossless.Read(nil, s[0], s[1]); len(l) != 0 || e != api.ErrArg {
			t.Errorf("Read without a reader: %v, %d", l, e)
		}
		for _, b := range [][]byte{nil, make([]byte, 10), make([]byte, 2048)} {
			if l, e := lossless.Samples(b, s[0], s[1]); len(l) != 0 || e != api.ErrArg {
				t.Errorf("Samples of %v: %v, %d", s, l, e)
			}
		}
	}
	for channels := 1; channels <= 2; channels++ {
		for _, n := range []int{1, 128} {
			if l, e := lossless.Read(nil, channels, n); len(l) != 0 || e != api.ErrArg {
				t.Errorf("Read without a reader: %v, %d", l, e)
			}
			if l, e := lossless.Read(&bits.Reader{}, channels, n); len(l) != 0 || e != api.ErrShort {
				t.Errorf("Read of a reader without bits: %v, %d", l, e)
			}
		}
	}
}

// digits are those of bytes.
func digits(b []byte) string {
	var s strings.Builder
	for _, x := range b {
		s.WriteString(bittext.Number(int(x), 8))
	}
	return s.String()
}

func TestSamples(t *testing.T) {
	random := rand.New(rand.NewSource(4))
	errors := map[api.Errno]int{}
	try := func(b []byte, channels, n int) {
		t.Helper()
		s := digits(b)
		r := bittext.Open(s)
		want, f := read(r, channels, n)
		if f == api.OK && (r.Left() >= 8 || strings.Contains(s[r.At():], "1")) {
			want, f = nil, api.ErrForm
		}
		got, e := lossless.Samples(b, channels, n)
		if !areEqual(got, want) || e != f {
			t.Fatalf("Samples of %v for %d times %d: %v, %d, want %v, %d", b, channels, n, got, e, want, f)
		}
		errors[e]++
	}
	for _, f := range frames() {
		b, _ := lossless.Bytes(f)
		n := len(f[0])
		try(b, len(f), n)
		try(append(slices.Clone(b), 0), len(f), n)
		try(append(slices.Clone(b), 1), len(f), n)
		try(b[:len(b)-1], len(f), n)
		try(b, 3-len(f), n)
		for range 4 {
			other := slices.Clone(b)
			other[random.Intn(len(b))] ^= 1 << random.Intn(8)
			try(other, len(f), n)
		}
		for i := range 8 {
			other := slices.Clone(b)
			other[len(b)-1] ^= 1 << i
			try(other, len(f), n)
		}
	}
	if errors[api.OK] == 0 || errors[api.ErrShort] == 0 || errors[api.ErrForm] == 0 || errors[api.ErrRange] == 0 || len(errors) != 4 {
		t.Errorf("not all errors were seen: %v", errors)
	}
	for _, c := range []struct {
		b    []byte
		want api.Errno
	}{
		{nil, api.ErrShort}, {[]byte{0, 0}, api.ErrShort}, {[]byte{0, 0, 0}, api.OK}, {[]byte{0, 0, 1}, api.ErrForm}, {[]byte{0, 0, 16}, api.ErrForm}, {[]byte{0, 0, 32}, api.OK}, {[]byte{0, 0, 0, 0}, api.ErrForm},
		{make([]byte, 2047), api.ErrForm}, {make([]byte, 2048), api.ErrFull}, {make([]byte, 1<<18), api.ErrFull}, {slices.Repeat([]byte{255}, 2047), api.ErrForm}, {slices.Repeat([]byte{255}, 2048), api.ErrFull},
	} {
		if l, e := lossless.Samples(c.b, 1, 5); e != c.want || e != api.OK && len(l) != 0 {
			t.Errorf("Samples of %d bytes: %v, %d, want the error %d", len(c.b), l, e, c.want)
		}
	}
	// Whole bytes, with nothing left.
	l, e := lossless.Samples([]byte{0b10_000_00_0, 0b011_01_110}, 1, 1)
	areFrames(t, "Samples of 7", l, e, [][]int{{7}})
}

// TestMemory finds results that share memory with others, or with arguments.
func TestMemory(t *testing.T) {
	b, _ := lossless.Bytes([][]int{{5, 5, 5}, {5, 5, 5}})
	kept := slices.Clone(b)
	l, e := lossless.Samples(b, 2, 3)
	clear(b)
	areFrames(t, "Samples", l, e, [][]int{{5, 5, 5}, {5, 5, 5}})
	clear(l[0])
	l[0] = append(l[0], 9)
	areFrames(t, "the other channel", l[1:], e, [][]int{{5, 5, 5}})
	l, e = lossless.Samples(kept, 2, 3)
	areFrames(t, "Samples again", l, e, [][]int{{5, 5, 5}, {5, 5, 5}})
}
