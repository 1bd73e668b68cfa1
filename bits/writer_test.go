package bits_test

import (
	"bytes"
	"math"
	"math/rand"
	"strings"
	"testing"

	"shawm/api"
	"shawm/bits"
)

// text returns the bits of a writer as digits, and fails if its last byte is not filled with zeros.
func text(t *testing.T, w *bits.Writer) string {
	t.Helper()
	b, n := w.Bytes(), w.Len()
	if len(b) != (n+7)/8 {
		t.Fatalf("%d bits are in %d bytes", n, len(b))
	}
	all := digits(b)
	if strings.Contains(all[n:], "1") {
		t.Fatalf("%d bits: the last byte of %v is not filled with zeros", n, b)
	}
	return all[:n]
}

func digits(b []byte) string {
	var s strings.Builder
	for _, x := range b {
		for i := 7; i >= 0; i-- {
			s.WriteByte('0' + x>>i&1)
		}
	}
	return s.String()
}

// number is v in n digits.
func number(v, n int) string {
	var s strings.Builder
	for i := n - 1; i >= 0; i-- {
		s.WriteByte('0' + byte(v>>i&1))
	}
	return s.String()
}

// nearlyFull returns a writer in which there is room for left bits.
func nearlyFull(t *testing.T, left int) *bits.Writer {
	t.Helper()
	w := bits.New()
	if e := w.Append(make([]byte, api.MaxBits/8), api.MaxBits-left); e != api.OK || w.Len() != api.MaxBits-left {
		t.Fatalf("Append of %d bits: %d", api.MaxBits-left, e)
	}
	return w
}

// refused fails unless the call returns that error and leaves the writer alone.
func refused(t *testing.T, w *bits.Writer, name string, want api.Errno, call func() api.Errno) {
	t.Helper()
	n, b := w.Len(), w.Bytes()
	if e := call(); e != want {
		t.Errorf("%s: %d, want %d", name, e, want)
	}
	if w.Len() != n || !bytes.Equal(w.Bytes(), b) {
		t.Errorf("%s changed the writer", name)
	}
}

func TestWriterExample(t *testing.T) {
	w := bits.New()
	if w.Put(5, 3) != api.OK || w.Unary(2) != api.OK || w.Align(0) != api.OK || !bytes.Equal(w.Bytes(), []byte{164}) {
		t.Errorf("Bytes = %v", w.Bytes())
	}
	w = bits.New()
	if w.Gamma(5) != api.OK || w.Signed(-1, 4) != api.OK || text(t, w) != "001011111" {
		t.Errorf("bits = %s", text(t, w))
	}
}

func TestPut(t *testing.T) {
	for n := range 33 {
		top := 1<<n - 1
		for _, v := range []int{0, top / 3, top / 2, top} {
			w := bits.New()
			if e := w.Put(1, 1); e != api.OK {
				t.Fatalf("Put(1, 1): %d", e)
			}
			if e := w.Put(v, n); e != api.OK || text(t, w) != "1"+number(v, n) {
				t.Errorf("Put(%d, %d): %d, %s", v, n, e, text(t, w))
			}
		}
		for _, v := range []int{-1, top + 1, math.MinInt, math.MaxInt} {
			w := bits.New()
			refused(t, w, "Put of "+number(v, 40), api.ErrArg, func() api.Errno { return w.Put(v, n) })
		}
	}
	for _, n := range []int{-1, 33, 64, math.MinInt, math.MaxInt} {
		w := bits.New()
		refused(t, w, "Put with a wrong width", api.ErrArg, func() api.Errno { return w.Put(0, n) })
	}
}

func TestSigned(t *testing.T) {
	for n := 1; n <= 32; n++ {
		half := 1 << (n - 1)
		for _, v := range []int{-half, -half / 2, -1, 0, half / 2, half - 1} {
			if v >= half {
				continue
			}
			w := bits.New()
			if e := w.Signed(v, n); e != api.OK || text(t, w) != number(v&(1<<n-1), n) {
				t.Errorf("Signed(%d, %d): %d, %s", v, n, e, text(t, w))
			}
		}
		for _, v := range []int{-half - 1, half, math.MinInt, math.MaxInt} {
			w := bits.New()
			refused(t, w, "Signed out of range", api.ErrArg, func() api.Errno { return w.Signed(v, n) })
		}
	}
	for _, n := range []int{0, -1, 33, math.MinInt, math.MaxInt} {
		w := bits.New()
		refused(t, w, "Signed with a wrong width", api.ErrArg, func() api.Errno { return w.Signed(0, n) })
	}
}

func TestUnary(t *testing.T) {
	for _, n := range []int{0, 1, 7, 8, 63, 64, 65, 999, 1000} {
		w := bits.New()
		if e := w.Unary(n); e != api.OK || text(t, w) != strings.Repeat("0", n)+"1" {
			t.Errorf("Unary(%d): %d, %s", n, e, text(t, w))
		}
	}
	for _, n := range []int{-1, 1001, math.MinInt, math.MaxInt} {
		w := bits.New()
		refused(t, w, "Unary", api.ErrArg, func() api.Errno { return w.Unary(n) })
	}
}

func TestGamma(t *testing.T) {
	for k := range 21 {
		for _, v := range []int{1 << k, 1<<k + 1<<k/2, 2<<k - 1} {
			w := bits.New()
			if e := w.Gamma(v); e != api.OK || text(t, w) != strings.Repeat("0", k)+number(v, k+1) {
				t.Errorf("Gamma(%d): %d, %s", v, e, text(t, w))
			}
		}
	}
	for _, v := range []int{0, -1, 1 << 21, math.MinInt, math.MaxInt} {
		w := bits.New()
		refused(t, w, "Gamma", api.ErrArg, func() api.Errno { return w.Gamma(v) })
	}
}

func TestWriterAlign(t *testing.T) {
	for n := range 17 {
		for bit, digit := range []string{"0", "1"} {
			w := bits.New()
			want := number(0x5A5A, n)
			w.Put(0x5A5A&(1<<n-1), n)
			want += strings.Repeat(digit, (8-n%8)%8)
			if e := w.Align(bit); e != api.OK || text(t, w) != want {
				t.Errorf("Align(%d) of %d bits: %d, %s", bit, n, e, text(t, w))
			}
		}
	}
	for _, bit := range []int{-1, 2, 3, math.MinInt, math.MaxInt} {
		for _, n := range []int{0, 3} {
			w := bits.New()
			w.Put(0, n)
			refused(t, w, "Align", api.ErrArg, func() api.Errno { return w.Align(bit) })
		}
	}
}

func TestAppend(t *testing.T) {
	b := []byte{0xA5, 0x0F, 0xC3, 0xFF}
	for ahead := range 9 {
		for n := range 8*len(b) + 1 {
			w := bits.New()
			w.Put(1<<ahead-1, ahead)
			if e := w.Append(b, n); e != api.OK || text(t, w) != strings.Repeat("1", ahead)+digits(b)[:n] {
				t.Errorf("Append of %d bits behind %d: %d, %s", n, ahead, e, text(t, w))
			}
		}
	}
	if !bytes.Equal(b, []byte{0xA5, 0x0F, 0xC3, 0xFF}) {
		t.Errorf("Append changed its argument: %v", b)
	}
	for _, n := range []int{-1, 33, math.MinInt, math.MaxInt} {
		w := bits.New()
		refused(t, w, "Append", api.ErrArg, func() api.Errno { return w.Append(b, n) })
	}
	w := bits.New()
	if w.Append(nil, 0) != api.OK || w.Append([]byte{}, 0) != api.OK || w.Len() != 0 {
		t.Error("Append of nothing")
	}
	refused(t, w, "Append of nil", api.ErrArg, func() api.Errno { return w.Append(nil, 1) })
	huge := make([]byte, api.MaxBits/8+1)
	refused(t, w, "Append of too much", api.ErrFull, func() api.Errno { return w.Append(huge, 8*len(huge)) })
	refused(t, w, "Append of one bit too much", api.ErrFull, func() api.Errno { return w.Append(huge, api.MaxBits+1) })
	refused(t, w, "Append of more than there is", api.ErrArg, func() api.Errno { return w.Append(huge, 8*len(huge)+1) })
}

func TestWriterFull(t *testing.T) {
	calls := []struct {
		name string
		n    int
		call func(w *bits.Writer) api.Errno
	}{
		{"Put of 1 bit", 1, func(w *bits.Writer) api.Errno { return w.Put(1, 1) }},
		{"Put of 32 bits", 32, func(w *bits.Writer) api.Errno { return w.Put(1<<32-1, 32) }},
		{"Signed of 1 bit", 1, func(w *bits.Writer) api.Errno { return w.Signed(-1, 1) }},
		{"Signed of 32 bits", 32, func(w *bits.Writer) api.Errno { return w.Signed(-1<<31, 32) }},
		{"Unary of 0", 1, func(w *bits.Writer) api.Errno { return w.Unary(0) }},
		{"Unary of 1000", 1001, func(w *bits.Writer) api.Errno { return w.Unary(1000) }},
		{"Gamma of 1", 1, func(w *bits.Writer) api.Errno { return w.Gamma(1) }},
		{"Gamma of 2^21 - 1", 41, func(w *bits.Writer) api.Errno { return w.Gamma(1<<21 - 1) }},
		{"Append of 1 bit", 1, func(w *bits.Writer) api.Errno { return w.Append([]byte{128}, 1) }},
		{"Append of 40 bits", 40, func(w *bits.Writer) api.Errno { return w.Append([]byte("abcde"), 40) }},
	}
	for _, c := range calls {
		w := nearlyFull(t, c.n-1)
		refused(t, w, c.name, api.ErrFull, func() api.Errno { return c.call(w) })
		w = nearlyFull(t, c.n)
		if e := c.call(w); e != api.OK || w.Len() != api.MaxBits {
			t.Errorf("%s, for which there is room: %d", c.name, e)
		}
		refused(t, w, c.name+" in a full writer", api.ErrFull, func() api.Errno { return c.call(w) })
	}
}

func TestFullWriterStill(t *testing.T) {
	w := nearlyFull(t, 7)
	if e := w.Align(1); e != api.OK || w.Len() != api.MaxBits || w.Bytes()[api.MaxBits/8-1] != 127 {
		t.Errorf("Align: %d, %d bits", e, w.Len())
	}
	if w.Put(0, 0) != api.OK || w.Align(0) != api.OK || w.Append([]byte{1}, 0) != api.OK || w.Len() != api.MaxBits {
		t.Error("a full writer takes no bits that are none")
	}
	refused(t, w, "Put", api.ErrArg, func() api.Errno { return w.Put(2, 1) })
	refused(t, w, "Signed", api.ErrArg, func() api.Errno { return w.Signed(1, 1) })
	refused(t, w, "Unary", api.ErrArg, func() api.Errno { return w.Unary(1001) })
	refused(t, w, "Gamma", api.ErrArg, func() api.Errno { return w.Gamma(0) })
	refused(t, w, "Align", api.ErrArg, func() api.Errno { return w.Align(2) })
	refused(t, w, "Append", api.ErrArg, func() api.Errno { return w.Append([]byte{1}, 9) })
}

func TestNilWriter(t *testing.T) {
	var w *bits.Writer
	for i, e := range []api.Errno{w.Put(0, 0), w.Signed(0, 1), w.Unary(0), w.Gamma(1), w.Align(0), w.Append(nil, 0)} {
		if e != api.ErrArg {
			t.Errorf("call %d: %d", i, e)
		}
	}
	if w.Len() != 0 || len(w.Bytes()) != 0 {
		t.Error("a writer that is nil has bits")
	}
}

func TestZeroWriter(t *testing.T) {
	var w bits.Writer
	if w.Len() != 0 || len(w.Bytes()) != 0 {
		t.Error("a zero writer has bits")
	}
	if w.Align(1) != api.OK || w.Len() != 0 || w.Put(5, 3) != api.OK || w.Unary(2) != api.OK || w.Align(0) != api.OK || !bytes.Equal(w.Bytes(), []byte{164}) {
		t.Errorf("Bytes = %v", w.Bytes())
	}
	n := bits.New()
	if n == nil || n.Len() != 0 || len(n.Bytes()) != 0 {
		t.Error("New")
	}
}

func TestBytesAreNew(t *testing.T) {
	w := bits.New()
	w.Put(0xABC, 12)
	first := w.Bytes()
	w.Put(15, 4)
	w.Put(1, 8)
	if !bytes.Equal(first, []byte{0xAB, 0xC0}) {
		t.Errorf("a later call changed %v", first)
	}
	second := w.Bytes()
	clear(second[:cap(second)])
	if !bytes.Equal(w.Bytes(), []byte{0xAB, 0xCF, 1}) {
		t.Errorf("Bytes = %v", w.Bytes())
	}
	source := []byte{1, 2, 3}
	v := bits.New()
	v.Append(source, 24)
	clear(source)
	if !bytes.Equal(v.Bytes(), []byte{1, 2, 3}) {
		t.Errorf("Append kept its argument: %v", v.Bytes())
	}
}

// TestManyCalls writes by many calls at random, in two writers, and reads with the same calls; in between there are calls that are refused.
func TestManyCalls(t *testing.T) {
	for seed := range int64(40) {
		a, b := bits.New(), bits.New()
		var want strings.Builder
		reads := scribble(rand.New(rand.NewSource(seed)), &want, a)
		scribble(rand.New(rand.NewSource(seed)), &strings.Builder{}, b)
		if text(t, a) != want.String() || text(t, b) != want.String() {
			t.Fatalf("seed %d: other bits", seed)
		}
		r, e := bits.Open(a.Bytes(), a.Len())
		if e != api.OK {
			t.Fatalf("Open: %d", e)
		}
		for i, read := range reads {
			r.Get(33)
			r.Take(r.Left() + 1)
			r.Seek(-1)
			if !read(r) {
				t.Fatalf("seed %d: call %d is not read again", seed, i)
			}
		}
		if r.Left() != 0 || r.At() != a.Len() {
			t.Errorf("seed %d: %d bits are left", seed, r.Left())
		}
		all, _ := bits.Open(a.Bytes(), 8*len(a.Bytes()))
		all.Seek(a.Len())
		if fill, e := all.Get(all.Left()); fill != 0 || e != api.OK || all.Left() != 0 {
			t.Errorf("seed %d: filled with %d", seed, fill)
		}
	}
}

// scribble makes calls of w, adds their bits to want, and returns calls that read them again.
func scribble(random *rand.Rand, want *strings.Builder, w *bits.Writer) []func(r *bits.Reader) bool {
	var reads []func(r *bits.Reader) bool
	for range 200 {
		n := random.Intn(33)
		v := random.Intn(1 << n)
		w.Put(1<<n, n)
		w.Unary(-1)
		w.Append(nil, 1)
		switch random.Intn(6) {
		case 0:
			w.Put(v, n)
			want.WriteString(number(v, n))
			reads = append(reads, func(r *bits.Reader) bool { x, e := r.Get(n); return x == v && e == api.OK })
		case 1:
			s := v - 1<<n/2
			w.Signed(s, max(n, 1))
			want.WriteString(number(s&(1<<max(n, 1)-1), max(n, 1)))
			reads = append(reads, func(r *bits.Reader) bool { x, e := r.Signed(max(n, 1)); return x == s && e == api.OK })
		case 2:
			w.Unary(n)
			want.WriteString(strings.Repeat("0", n) + "1")
			reads = append(reads, func(r *bits.Reader) bool { x, e := r.Unary(n); return x == n && e == api.OK })
		case 3:
			g := max(v>>max(n-21, 0), 1)
			w.Gamma(g)
			k := len(strings.TrimLeft(number(g, 21), "0"))
			want.WriteString(strings.Repeat("0", k-1) + number(g, k))
			reads = append(reads, func(r *bits.Reader) bool { x, e := r.Gamma(); return x == g && e == api.OK })
		case 4:
			k := (8 - w.Len()%8) % 8
			w.Align(v & 1)
			want.WriteString(strings.Repeat(number(v&1, 1), k))
			reads = append(reads, func(r *bits.Reader) bool { return r.Align() == k })
		default:
			b := []byte{byte(v), byte(v >> 8), byte(v >> 16), byte(v >> 24)}
			w.Append(b, n)
			want.WriteString(digits(b)[:n])
			reads = append(reads, func(r *bits.Reader) bool {
				x, e := r.Take(n)
				return digits(x) == digits(b)[:n]+strings.Repeat("0", (8-n%8)%8) && e == api.OK
			})
		}
	}
	return reads
}
