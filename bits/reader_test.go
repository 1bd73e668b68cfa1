package bits_test

import (
	"bytes"
	"math"
	"strings"
	"testing"

	"shawm/api"
	"shawm/bits"
)

// open returns a reader of these digits, behind which more bits of the last byte are ones.
func open(t *testing.T, s string) *bits.Reader {
	t.Helper()
	b := make([]byte, (len(s)+7)/8)
	for i := range 8 * len(b) {
		if i >= len(s) || s[i] == '1' {
			b[i/8] |= 128 >> (i % 8)
		}
	}
	r, e := bits.Open(b, len(s))
	if e != api.OK || r == nil || r.At() != 0 || r.Left() != len(s) {
		t.Fatalf("Open of %q: %d", s, e)
	}
	return r
}

// stays fails unless the call returns that error with a zero value, and leaves the reader alone.
func stays(t *testing.T, r *bits.Reader, name string, want api.Errno, call func() (int, api.Errno)) {
	t.Helper()
	at, left := r.At(), r.Left()
	if v, e := call(); v != 0 || e != want {
		t.Errorf("%s: %d, %d, want the error %d", name, v, e, want)
	}
	if r.At() != at || r.Left() != left {
		t.Errorf("%s: the position went from %d to %d", name, at, r.At())
	}
}

func TestOpen(t *testing.T) {
	b := []byte{0xF0, 0x0F}
	for n := range 17 {
		if r, e := bits.Open(b, n); e != api.OK || r == nil || r.Left() != n || r.At() != 0 {
			t.Errorf("Open of %d bits: %d", n, e)
		}
	}
	for _, n := range []int{-1, 17, math.MinInt, math.MaxInt} {
		if r, e := bits.Open(b, n); e != api.ErrArg || r != nil {
			t.Errorf("Open of %d bits: %d", n, e)
		}
	}
	if r, e := bits.Open(nil, 0); e != api.OK || r == nil || r.Left() != 0 {
		t.Errorf("Open of nothing: %d", e)
	}
	if r, e := bits.Open(nil, 1); e != api.ErrArg || r != nil {
		t.Errorf("Open of nothing: %d", e)
	}
	huge := make([]byte, api.MaxBits/8+1)
	if r, e := bits.Open(huge, api.MaxBits); e != api.OK || r.Left() != api.MaxBits {
		t.Errorf("Open of MaxBits: %d", e)
	}
	if r, e := bits.Open(huge, api.MaxBits+1); e != api.ErrFull || r != nil {
		t.Errorf("Open of more than MaxBits: %d", e)
	}
	if r, e := bits.Open(huge, api.MaxBits+9); e != api.ErrArg || r != nil {
		t.Errorf("Open of more than there is: %d", e)
	}
}

func TestReaderKeepsNothing(t *testing.T) {
	b := []byte{1, 2, 3}
	r, _ := bits.Open(b, 24)
	clear(b)
	got, e := r.Take(24)
	if e != api.OK || !bytes.Equal(got, []byte{1, 2, 3}) {
		t.Fatalf("Take = %v, %d", got, e)
	}
	clear(got)
	r.Seek(0)
	if v, e := r.Get(24); v != 0x010203 || e != api.OK {
		t.Errorf("Get = %x, %d", v, e)
	}
	b = []byte{7, 9}
	r, _ = bits.Open(b, 16)
	r.Get(16)
	if !bytes.Equal(b, []byte{7, 9}) {
		t.Errorf("the reader changed %v", b)
	}
}

func TestGet(t *testing.T) {
	s := "10110011100011110000111110000011111100000011111110000000"
	for n := range 33 {
		r := open(t, s)
		for at := 0; at+n <= len(s) && at < 40; at += max(n, 1) {
			r.Seek(at)
			if v, e := r.Get(n); e != api.OK || number(v, n) != s[at:at+n] || v>>n != 0 || r.At() != at+n || r.Left() != len(s)-at-n {
				t.Errorf("Get(%d) at %d: %d, %d", n, at, v, e)
			}
		}
	}
	r := open(t, "101")
	for _, n := range []int{-1, 33, 64, math.MinInt, math.MaxInt} {
		stays(t, r, "Get with a wrong width", api.ErrArg, func() (int, api.Errno) { return r.Get(n) })
	}
	stays(t, r, "Get of 4 of 3 bits", api.ErrShort, func() (int, api.Errno) { return r.Get(4) })
	stays(t, r, "Get of 32 of 3 bits", api.ErrShort, func() (int, api.Errno) { return r.Get(32) })
	if v, e := r.Get(3); v != 5 || e != api.OK {
		t.Errorf("Get = %d, %d", v, e)
	}
	if v, e := r.Get(0); v != 0 || e != api.OK {
		t.Errorf("Get(0) at the end: %d, %d", v, e)
	}
	stays(t, r, "Get at the end", api.ErrShort, func() (int, api.Errno) { return r.Get(1) })
	stays(t, r, "Get at the end", api.ErrArg, func() (int, api.Errno) { return r.Get(33) })
}

func TestReadSigned(t *testing.T) {
	for n := 1; n <= 32; n++ {
		r := open(t, "1"+strings.Repeat("0", n-1)+"0"+strings.Repeat("1", n-1)+strings.Repeat("1", n))
		for i, want := range []int{-1 << (n - 1), 1<<(n-1) - 1, -1} {
			if v, e := r.Signed(n); v != want || e != api.OK || r.At() != (i+1)*n {
				t.Errorf("Signed(%d) = %d, %d, want %d", n, v, e, want)
			}
		}
		stays(t, r, "Signed at the end", api.ErrShort, func() (int, api.Errno) { return r.Signed(n) })
	}
	r := open(t, "111")
	for _, n := range []int{-1, 0, 33, math.MinInt, math.MaxInt} {
		stays(t, r, "Signed with a wrong width", api.ErrArg, func() (int, api.Errno) { return r.Signed(n) })
	}
	stays(t, r, "Signed(4) of 3 bits", api.ErrShort, func() (int, api.Errno) { return r.Signed(4) })
}

func TestReadUnary(t *testing.T) {
	for _, n := range []int{0, 1, 2, 7, 8, 999, 1000} {
		r := open(t, strings.Repeat("0", n)+"101")
		if n > 0 {
			stays(t, r, "Unary of too many zeros", api.ErrForm, func() (int, api.Errno) { return r.Unary(n - 1) })
		}
		if v, e := r.Unary(n); v != n || e != api.OK || r.At() != n+1 || r.Left() != 2 {
			t.Errorf("Unary(%d) = %d, %d", n, v, e)
		}
		if v, e := r.Unary(1000); v != 1 || e != api.OK || r.Left() != 0 {
			t.Errorf("the next unary number: %d, %d", v, e)
		}
		stays(t, r, "Unary at the end", api.ErrShort, func() (int, api.Errno) { return r.Unary(1000) })
	}
	r := open(t, "000")
	for _, most := range []int{-1, 1001, math.MinInt, math.MaxInt} {
		stays(t, r, "Unary", api.ErrArg, func() (int, api.Errno) { return r.Unary(most) })
	}
	for most, want := range []api.Errno{api.ErrForm, api.ErrForm, api.ErrForm, api.ErrShort, api.ErrShort} {
		stays(t, r, "Unary of zeros alone", want, func() (int, api.Errno) { return r.Unary(most) })
	}
	r.Seek(2)
	stays(t, r, "Unary of one zero", api.ErrShort, func() (int, api.Errno) { return r.Unary(1) })
	stays(t, r, "Unary of one zero", api.ErrForm, func() (int, api.Errno) { return r.Unary(0) })
}

func TestReadGamma(t *testing.T) {
	for k := range 21 {
		for _, v := range []int{1 << k, 1<<k + 1<<k/3, 2<<k - 1} {
			s := strings.Repeat("0", k) + number(v, k+1)
			r := open(t, s+"1")
			if x, e := r.Gamma(); x != v || e != api.OK || r.Left() != 1 {
				t.Errorf("Gamma = %d, %d, want %d", x, e, v)
			}
			for n := range s {
				r := open(t, s[:n])
				stays(t, r, "Gamma of a part", api.ErrShort, r.Gamma)
			}
		}
	}
	r := open(t, strings.Repeat("0", 21)+strings.Repeat("1", 30))
	stays(t, r, "Gamma of 21 zeros", api.ErrForm, r.Gamma)
	r = open(t, strings.Repeat("0", 21))
	stays(t, r, "Gamma of 21 zeros and the end", api.ErrForm, r.Gamma)
	r = open(t, strings.Repeat("0", 20))
	stays(t, r, "Gamma of 20 zeros and the end", api.ErrShort, r.Gamma)
}

func TestTake(t *testing.T) {
	s := "1011001110001111000011111"
	for at := range len(s) + 1 {
		for n := range len(s) - at + 1 {
			r := open(t, s)
			r.Seek(at)
			b, e := r.Take(n)
			if e != api.OK || len(b) != (n+7)/8 || digits(b) != s[at:at+n]+strings.Repeat("0", 8*len(b)-n) || r.At() != at+n {
				t.Errorf("Take(%d) at %d: %v, %d", n, at, b, e)
			}
		}
		r := open(t, s)
		r.Seek(at)
		for _, n := range []int{len(s) - at + 1, 1000, math.MaxInt} {
			if b, e := r.Take(n); len(b) != 0 || e != api.ErrShort || r.At() != at {
				t.Errorf("Take(%d) at %d: %v, %d", n, at, b, e)
			}
		}
		for _, n := range []int{-1, math.MinInt} {
			if b, e := r.Take(n); len(b) != 0 || e != api.ErrArg || r.At() != at {
				t.Errorf("Take(%d) at %d: %v, %d", n, at, b, e)
			}
		}
	}
}

func TestTakeAll(t *testing.T) {
	b := bytes.Repeat([]byte{0xA7}, api.MaxBits/8)
	r, _ := bits.Open(b, api.MaxBits)
	if got, e := r.Take(api.MaxBits); e != api.OK || !bytes.Equal(got, b) || r.Left() != 0 {
		t.Errorf("Take of MaxBits: %d", e)
	}
}

func TestReaderAlign(t *testing.T) {
	for n := range 18 {
		for at := range n + 1 {
			r := open(t, strings.Repeat("1", n))
			r.Seek(at)
			want := min((at+7)/8*8, n)
			if got := r.Align(); got != want-at || r.At() != want || r.Left() != n-want {
				t.Errorf("Align at %d of %d: by %d, to %d", at, n, got, r.At())
			}
			if got := r.Align(); got != 0 || r.At() != want {
				t.Errorf("Align again at %d of %d: by %d, to %d", at, n, got, r.At())
			}
		}
	}
}

func TestSeek(t *testing.T) {
	r := open(t, "1101")
	for _, at := range []int{4, 0, 3, 1} {
		if e := r.Seek(at); e != api.OK || r.At() != at || r.Left() != 4-at {
			t.Errorf("Seek(%d): %d", at, e)
		}
		for _, wrong := range []int{-1, 5, math.MinInt, math.MaxInt} {
			if e := r.Seek(wrong); e != api.ErrRange || r.At() != at {
				t.Errorf("Seek(%d): %d, at %d", wrong, e, r.At())
			}
		}
	}
	if v, e := r.Get(3); v != 5 || e != api.OK {
		t.Errorf("Get = %d, %d", v, e)
	}
}

func TestNilReader(t *testing.T) {
	var r *bits.Reader
	calls := []func() (int, api.Errno){
		func() (int, api.Errno) { return r.Get(0) },
		func() (int, api.Errno) { return r.Signed(1) },
		func() (int, api.Errno) { return r.Unary(0) },
		func() (int, api.Errno) { return r.Gamma() },
		func() (int, api.Errno) { b, e := r.Take(0); return len(b), e },
		func() (int, api.Errno) { return 0, r.Seek(0) },
	}
	for i, call := range calls {
		if v, e := call(); v != 0 || e != api.ErrArg {
			t.Errorf("call %d: %d, %d", i, v, e)
		}
	}
	if r.Align() != 0 || r.At() != 0 || r.Left() != 0 {
		t.Error("a reader that is nil has a position")
	}
}

func TestZeroReader(t *testing.T) {
	var r bits.Reader
	if r.Left() != 0 || r.At() != 0 || r.Align() != 0 || r.Seek(0) != api.OK || r.Seek(1) != api.ErrRange {
		t.Error("a zero reader has bits")
	}
	if v, e := r.Get(0); v != 0 || e != api.OK {
		t.Errorf("Get(0) = %d, %d", v, e)
	}
	if b, e := r.Take(0); len(b) != 0 || e != api.OK {
		t.Errorf("Take(0) = %v, %d", b, e)
	}
	stays(t, &r, "Get", api.ErrShort, func() (int, api.Errno) { return r.Get(1) })
	stays(t, &r, "Signed", api.ErrShort, func() (int, api.Errno) { return r.Signed(1) })
	stays(t, &r, "Unary", api.ErrShort, func() (int, api.Errno) { return r.Unary(0) })
	stays(t, &r, "Gamma", api.ErrShort, r.Gamma)
	stays(t, &r, "Get", api.ErrArg, func() (int, api.Errno) { return r.Get(33) })
}

// TestTwoReaders checks that what a reader gives hangs on its own calls alone.
func TestTwoReaders(t *testing.T) {
	a, b := open(t, "110010101111"), open(t, "110010101111")
	for range 4 {
		x, e := a.Get(3)
		y, f := b.Get(3)
		if x != y || e != api.OK || f != api.OK {
			t.Errorf("%d, %d", x, y)
		}
	}
}
