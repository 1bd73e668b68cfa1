package rice_test

import (
	"math"
	"math/rand"
	"slices"
	"strings"
	"testing"

	"shawm/api"
	"shawm/bits"
	"shawm/bittext"
	"shawm/rice"
)

// textOf is l in parts, with that order and these parameters.
func textOf(l []int, p int, parameters ...int) string {
	s := bittext.Number(p, 2)
	n := len(l) / len(parameters)
	for i, k := range parameters {
		s += bittext.Number(k, 4)
		for _, v := range l[i*n : i*n+n] {
			s += wordOf(v, k)
		}
	}
	return s
}

// bestText is l in parts, with its order and the parameters of its parts.
func bestText(l []int) string {
	p, _ := orderOf(l)
	parameters := make([]int, []int{1, 2, 4, 8}[p])
	n := len(l) / len(parameters)
	for i := range parameters {
		parameters[i], _ = bestOf(l[i*n : i*n+n])
	}
	return textOf(l, p, parameters...)
}

func TestPut(t *testing.T) {
	for _, c := range []struct {
		v, k int
		want string
	}{
		{-3, 1, "0011"}, {12, 0, strings.Repeat("0", 24) + "1" + bittext.Number(24, 32)}, {0, 0, "1"}, {0, 3, "1000"}, {-1, 3, "1001"},
		{-1 << 31, 14, strings.Repeat("0", 24) + "1" + strings.Repeat("1", 32)}, {12<<14 - 1, 14, strings.Repeat("0", 23) + "111111111111110"},
	} {
		w := bits.New()
		if e := rice.Put(w, c.v, c.k); e != api.OK || bittext.Of(w) != c.want {
			t.Errorf("Put of %d with %d: %s, %d, want %s", c.v, c.k, bittext.Of(w), e, c.want)
		}
	}
	w := &bits.Writer{}
	want := "101"
	w.Put(5, 3)
	for k := range 15 {
		for _, v := range numbers() {
			want += wordOf(v, k)
			if e := rice.Put(w, v, k); e != api.OK {
				t.Errorf("Put of %d with %d: %d", v, k, e)
			}
		}
	}
	if bittext.Of(w) != want {
		t.Error("Put adds other words than those of the chapter")
	}
}

func TestPutErrors(t *testing.T) {
	w := bits.New()
	w.Put(5, 3)
	refused := func(want, e api.Errno) {
		t.Helper()
		if e != want || bittext.Of(w) != "101" {
			t.Errorf("Put: %d, want the error %d; the writer has %s", e, want, bittext.Of(w))
		}
	}
	for _, k := range []int{-1, 15, 64, math.MaxInt, math.MinInt} {
		for _, v := range []int{0, -7, 1 << 31, math.MinInt} {
			refused(api.ErrArg, rice.Put(w, v, k))
		}
	}
	for _, v := range []int{1 << 31, -1<<31 - 1, 1 << 62, math.MaxInt, math.MinInt} {
		for _, k := range []int{0, 5, 14} {
			refused(api.ErrRange, rice.Put(w, v, k))
		}
	}
	for _, v := range []int{0, 1 << 31} {
		for _, k := range []int{0, 14, -1} {
			if e := rice.Put(nil, v, k); e != api.ErrArg {
				t.Errorf("Put without a writer: %d", e)
			}
		}
	}
}

func TestPutFull(t *testing.T) {
	for _, c := range []struct{ v, k int }{{0, 0}, {-1, 0}, {-3, 1}, {11, 0}, {12, 0}, {0, 14}, {12<<14 - 1, 14}, {-1 << 31, 0}, {1<<31 - 1, 14}} {
		n := len(wordOf(c.v, c.k))
		w := bittext.Filled(n - 1)
		for room := n - 1; room >= 0; room-- {
			if e := rice.Put(w, c.v, c.k); e != api.ErrFull || w.Len() != api.MaxBits-room {
				t.Errorf("Put of %d bits into %d: %d", n, room, e)
			}
			w.Put(0, 1)
		}
		w = bittext.Filled(n)
		if e := rice.Put(w, c.v, c.k); e != api.OK || w.Len() != api.MaxBits {
			t.Errorf("Put of %d bits into as many: %d", n, e)
		}
	}
	w := bittext.Filled(0)
	if e := rice.Put(w, 1<<31, 0); e != api.ErrRange {
		t.Errorf("Put out of range into no room: %d", e)
	}
	if e := rice.Put(w, 0, 15); e != api.ErrArg {
		t.Errorf("Put with a wrong parameter into no room: %d", e)
	}
}

// TestGet is the promise P5.5 for words.
func TestGet(t *testing.T) {
	w := bits.New()
	w.Put(1, 3)
	for k := range 15 {
		for _, v := range numbers() {
			rice.Put(w, v, k)
		}
	}
	r, _ := bits.Open(w.Bytes(), w.Len())
	r.Get(3)
	at := 3
	for k := range 15 {
		for _, v := range numbers() {
			back, e := rice.Get(r, k)
			is(t, "Get", back, e, v)
			at += len(wordOf(v, k))
			if r.At() != at {
				t.Fatalf("Get of %d with %d stops at %d, not at %d", v, k, r.At(), at)
			}
		}
	}
	if r.Left() != 0 {
		t.Errorf("%d bits are left", r.Left())
	}
}

// refuses fails unless Get returns that error, and leaves the reader alone.
func refuses(t *testing.T, s string, k int, want api.Errno) {
	t.Helper()
	r := bittext.Open("10" + s)
	r.Get(2)
	if v, e := rice.Get(r, k); v != 0 || e != want || r.At() != 2 {
		t.Errorf("Get of %q with %d: %d, %d, want the error %d; it stops at %d", s, k, v, e, want, r.At())
	}
}

func TestGetErrors(t *testing.T) {
	zeros := strings.Repeat("0", 24)
	for _, k := range []int{0, 1, 5, 14} {
		for _, v := range []int{0, -1, 1, 11, 1000, 12<<14 - 1, 12 << 14, -1 << 31} {
			s := wordOf(v, k)
			for n := range s {
				refuses(t, s[:n], k, api.ErrShort)
			}
		}
		refuses(t, zeros+"0", k, api.ErrForm)
		refuses(t, zeros+"0"+zeros+"1", k, api.ErrForm)
		for _, u := range []int{0, 1, 23, 24<<k - 1} {
			refuses(t, zeros+"1"+bittext.Number(u, 32), k, api.ErrForm)
			// Bits that are not there come before what they say.
			refuses(t, zeros+"1"+bittext.Number(u, 32)[:31], k, api.ErrShort)
		}
		r := bittext.Open(zeros + "1" + bittext.Number(24<<k, 32))
		v, e := rice.Get(r, k)
		is(t, "Get of the least wide word", v, e, 12<<k)
	}
	for _, k := range []int{-1, 15, 64, math.MaxInt, math.MinInt} {
		refuses(t, "1"+zeros, k, api.ErrArg)
		refuses(t, "", k, api.ErrArg)
		refuses(t, zeros+zeros, k, api.ErrArg)
	}
	for _, k := range []int{0, 14, 15} {
		v, e := rice.Get(nil, k)
		fails(t, "Get without a reader", v, e, api.ErrArg)
	}
	v, e := rice.Get(&bits.Reader{}, 0)
	fails(t, "Get of a reader without bits", v, e, api.ErrShort)
}

// TestWrite is the promise P5.5 for lists, and that of P5.6 about Write.
func TestWrite(t *testing.T) {
	for i, l := range lists() {
		w := bits.New()
		ahead := bittext.Number(1, i%9+1)
		w.Put(1, i%9+1)
		kept := slices.Clone(l)
		if e := rice.Write(w, l); e != api.OK || bittext.Of(w) != ahead+bestText(l) || !slices.Equal(l, kept) {
			t.Errorf("Write of %v: %d", l, e)
		}
		if _, cost, _ := rice.Order(l); w.Len() != len(ahead)+cost {
			t.Errorf("Write of %v adds %d bits, and Order says %d", l, w.Len()-len(ahead), cost)
		}
		w.Put(2, 2)
		r, _ := bits.Open(w.Bytes(), w.Len())
		r.Get(len(ahead))
		back, e := rice.Read(r, len(l))
		if e != api.OK || !slices.Equal(back, l) || r.Left() != 2 {
			t.Errorf("Read of Write of %v: %v, %d, and %d bits are left", l, back, e, r.Left())
		}
	}
	w := bits.New()
	if e := rice.Write(w, nil); e != api.OK || bittext.Of(w) != "000000" {
		t.Errorf("Write of an empty list: %q, %d", bittext.Of(w), e)
	}
	w = bits.New()
	if e := rice.Write(w, []int{7}); e != api.OK || bittext.Of(w) != "00"+"0011"+"01"+"110" {
		t.Errorf("Write of 7: %q, %d", bittext.Of(w), e)
	}
}

// TestWriteLongest has the longest lists, with the shortest and the longest words.
func TestWriteLongest(t *testing.T) {
	for v, want := range map[int]int{0: 1, -1 << 31: 57} {
		l := slices.Repeat([]int{v}, api.MaxSamples)
		k, cost, e := rice.Best(l)
		is(t, "the parameter of Best", k, e, 0)
		is(t, "the bits of Best", cost, e, api.MaxSamples*want)
		p, cost, e := rice.Order(l)
		is(t, "the order", p, e, 0)
		is(t, "the bits of Order", cost, e, 6+api.MaxSamples*want)
		w := bits.New()
		if e := rice.Write(w, l); e != api.OK || w.Len() != cost {
			t.Errorf("Write of the longest list: %d, with %d bits", e, w.Len())
		}
		r, _ := bits.Open(w.Bytes(), w.Len())
		if back, e := rice.Read(r, api.MaxSamples); e != api.OK || !slices.Equal(back, l) || r.Left() != 0 {
			t.Errorf("Read of the longest list: %d", e)
		}
	}
}

func TestWriteErrors(t *testing.T) {
	for _, c := range wrongLists() {
		if e := rice.Write(nil, c.l); e != api.ErrArg {
			t.Errorf("Write without a writer: %d", e)
		}
		for _, w := range []*bits.Writer{bits.New(), bittext.Filled(0)} {
			n := w.Len()
			if e := rice.Write(w, c.l); e != c.want || w.Len() != n {
				t.Errorf("Write of a wrong list: %d, want the error %d", e, c.want)
			}
		}
	}
	if e := rice.Write(nil, nil); e != api.ErrArg {
		t.Errorf("Write without a writer: %d", e)
	}
	for _, l := range [][]int{nil, {0}, {5, -900, 17}, {0, 100000}, {1 << 30, 0, 0, 0, 0, 0, 0, 0}} {
		_, n := orderOf(l)
		w := bittext.Filled(n - 1)
		for room := n - 1; room >= 0; room-- {
			if e := rice.Write(w, l); e != api.ErrFull || w.Len() != api.MaxBits-room {
				t.Errorf("Write of %d bits into %d: %d", n, room, e)
			}
			w.Put(0, 1)
		}
		w = bittext.Filled(n)
		if e := rice.Write(w, l); e != api.OK || w.Len() != api.MaxBits {
			t.Errorf("Write of %d bits into as many: %d", n, e)
		}
	}
}

// TestReadAny reads lists with orders and parameters that are not the best ones.
func TestReadAny(t *testing.T) {
	random := rand.New(rand.NewSource(6))
	for _, l := range lists() {
		for p := range 4 {
			if _, can := costIn(l, p); !can {
				continue
			}
			parameters := make([]int, []int{1, 2, 4, 8}[p])
			for i := range parameters {
				parameters[i] = random.Intn(15)
			}
			r := bittext.Open(textOf(l, p, parameters...) + "1")
			back, e := rice.Read(r, len(l))
			if e != api.OK || !slices.Equal(back, l) || r.Left() != 1 {
				t.Errorf("Read of %v with %d and %v: %v, %d", l, p, parameters, back, e)
			}
		}
	}
}

// unread fails unless Read returns that error, and leaves the reader alone.
func unread(t *testing.T, s string, count int, want api.Errno) {
	t.Helper()
	r := bittext.Open("110" + s)
	r.Get(3)
	if l, e := rice.Read(r, count); len(l) != 0 || e != want || r.At() != 3 {
		t.Errorf("Read of %d from %q: %v, %d, want the error %d; it stops at %d", count, s, l, e, want, r.At())
	}
}

func TestReadShort(t *testing.T) {
	for _, s := range []struct {
		count int
		text  string
	}{
		{0, textOf(nil, 0, 0)}, {0, textOf(nil, 0, 9)}, {1, textOf([]int{-3}, 0, 1)},
		{4, textOf([]int{1, 2, 3, 4}, 1, 14, 0)}, {4, textOf([]int{1, 12, -1 << 31, 4}, 2, 3, 0, 2, 1)},
		{8, textOf([]int{0, 0, 5, 0, -9, 0, 0, 1}, 3, 0, 0, 2, 1, 3, 4, 0, 0)},
	} {
		for n := range s.text {
			unread(t, s.text[:n], s.count, api.ErrShort)
		}
		r := bittext.Open(s.text)
		if l, e := rice.Read(r, s.count); len(l) != s.count || e != api.OK || r.Left() != 0 {
			t.Errorf("Read of %q: %v, %d", s.text, l, e)
		}
	}
}

func TestReadErrors(t *testing.T) {
	good := textOf(make([]int, 8), 0, 0)
	for _, count := range []int{-1, api.MaxSamples + 1, math.MaxInt, math.MinInt} {
		unread(t, good, count, api.ErrArg)
		unread(t, "", count, api.ErrArg)
		if l, e := rice.Read(nil, count); len(l) != 0 || e != api.ErrArg {
			t.Errorf("Read without a reader: %v, %d", l, e)
		}
	}
	if l, e := rice.Read(nil, 0); len(l) != 0 || e != api.ErrArg {
		t.Errorf("Read without a reader: %v, %d", l, e)
	}
	if l, e := rice.Read(&bits.Reader{}, 0); len(l) != 0 || e != api.ErrShort {
		t.Errorf("Read of a reader without bits: %v, %d", l, e)
	}
	zeros := strings.Repeat("0", 25)
	for _, c := range []struct {
		text  string
		count int
		want  api.Errno
	}{
		{"", 0, api.ErrShort}, {"1", 3, api.ErrShort},
		// An order that no such list has, whatever follows.
		{"01", 0, api.ErrForm}, {"10", 0, api.ErrForm}, {"11", 0, api.ErrForm}, {"010000", 0, api.ErrForm},
		{"01", 1, api.ErrForm}, {"01", 3, api.ErrForm}, {"10", 2, api.ErrForm}, {"10", 6, api.ErrForm}, {"11", 4, api.ErrForm}, {"11", 12, api.ErrForm}, {"011111", 8191, api.ErrForm},
		// A parameter of 15.
		{"001111", 0, api.ErrForm}, {"001111", 1, api.ErrForm}, {"00111", 1, api.ErrShort}, {"0011111", 1, api.ErrForm},
		{"01" + "0000" + "1" + "1111" + "1", 2, api.ErrForm}, {"01" + "0000" + "1" + "111", 2, api.ErrShort},
		// The first element that has an error.
		{"00" + "0000" + "1" + zeros, 3, api.ErrForm}, {"00" + "0000" + "1" + zeros[1:], 3, api.ErrShort}, {"00" + "0000" + "1", 2, api.ErrShort},
		{"00" + "0000" + zeros[1:] + "1" + bittext.Number(23, 32) + "1", 2, api.ErrForm}, {"00" + "0001" + zeros[1:] + "1" + bittext.Number(47, 32), 2, api.ErrForm},
		{"01" + "0000" + "1" + "001" + "1111", 4, api.ErrForm}, {"01" + "0000" + "1" + "001" + "111", 4, api.ErrShort},
		{"01" + "1110" + "1" + "0000", 2, api.ErrShort},
	} {
		unread(t, c.text, c.count, c.want)
	}
}

func TestReadIsNew(t *testing.T) {
	s := textOf([]int{1, 2, 3, 4}, 1, 1, 2)
	r := bittext.Open(s + s)
	a, _ := rice.Read(r, 4)
	b, _ := rice.Read(r, 4)
	clear(a)
	if !slices.Equal(b, []int{1, 2, 3, 4}) {
		t.Errorf("the second list became %v", b)
	}
}
