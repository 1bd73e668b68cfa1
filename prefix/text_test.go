package prefix_test

import (
	"bytes"
	"math"
	"math/rand"
	"slices"
	"strings"
	"testing"

	"shawm/api"
	"shawm/bits"
	"shawm/prefix"
)

// open returns a reader of these digits, behind which more bits of the last byte are ones.
func open(t *testing.T, s string) *bits.Reader {
	t.Helper()
	b, n := packed(s)
	r, e := bits.Open(b, n)
	if e != api.OK {
		t.Fatalf("Open of %q: %d", s, e)
	}
	return r
}

// packed are digits as bytes, the last one filled with ones, and how many digits there are.
func packed(s string) ([]byte, int) {
	b := make([]byte, (len(s)+7)/8)
	for i := range 8 * len(b) {
		if i >= len(s) || s[i] == '1' {
			b[i/8] |= 128 >> (i % 8)
		}
	}
	return b, len(s)
}

// text are n bits of b as digits; it fails unless the last byte is filled with zeros.
func text(t *testing.T, b []byte, n int) string {
	t.Helper()
	var s strings.Builder
	for _, x := range b {
		s.WriteString(digits(int(x), 8))
	}
	if len(b) != (n+7)/8 || strings.Contains(s.String()[n:], "1") {
		t.Fatalf("%d bits are in %v", n, b)
	}
	return s.String()[:n]
}

// symbolsOf are symbols that have words.
func symbolsOf(random *rand.Rand, lengths []int, n int) []int {
	var with, symbols []int
	for symbol, length := range lengths {
		if length > 0 {
			with = append(with, symbol)
		}
	}
	for range n {
		symbols = append(symbols, with[random.Intn(len(with))])
	}
	return symbols
}

// TestBack is the promise P4.9.
func TestBack(t *testing.T) {
	random := rand.New(rand.NewSource(7))
	for i, lengths := range codes() {
		symbols, words := symbolsOf(random, lengths, i%90), wordsOf(lengths)
		var want strings.Builder
		w := bits.New()
		for _, symbol := range symbols {
			want.WriteString(words[symbol])
			if e := prefix.Write(w, lengths, symbol); e != api.OK {
				t.Fatalf("Write of %d in %v: %d", symbol, lengths, e)
			}
		}
		b, n, e := prefix.Encode(lengths, symbols)
		if e != api.OK || text(t, b, n) != want.String() || text(t, w.Bytes(), w.Len()) != want.String() {
			t.Fatalf("Encode of %v in %v: %v, %d", symbols, lengths, b, e)
		}
		if back, e := prefix.Decode(lengths, b, n, len(symbols)); e != api.OK || !slices.Equal(back, symbols) {
			t.Errorf("Decode of %v in %v: %v, %d", symbols, lengths, back, e)
		}
		r := open(t, want.String())
		at := 0
		for _, symbol := range symbols {
			at += lengths[symbol]
			if back, e := prefix.Read(r, lengths); back != symbol || e != api.OK || r.At() != at {
				t.Fatalf("Read of %d in %v: %d, %d, at %d", symbol, lengths, back, e, r.At())
			}
		}
		if back, e := prefix.Read(r, lengths); back != 0 || e != api.ErrShort || r.At() != at {
			t.Errorf("Read at the end of %v: %d, %d", lengths, back, e)
		}
	}
}

func TestWriteErrors(t *testing.T) {
	w := bits.New()
	w.Put(5, 3)
	for _, c := range wrongCodes() {
		if e := prefix.Write(w, c.lengths, 0); e != c.want || w.Len() != 3 {
			t.Errorf("Write in %v: %d, want %d", c.lengths, e, c.want)
		}
		if e := prefix.Write(nil, c.lengths, 0); e != api.ErrArg {
			t.Errorf("Write to no writer, in %v: %d", c.lengths, e)
		}
	}
	lengths := []int{2, 0, 1, 0}
	for _, symbol := range []int{1, 3, 4, -1, 256, math.MaxInt, math.MinInt} {
		if e := prefix.Write(w, lengths, symbol); e != api.ErrNone || w.Len() != 3 {
			t.Errorf("Write of %d: %d", symbol, e)
		}
		if e := prefix.Write(nil, lengths, symbol); e != api.ErrArg {
			t.Errorf("Write of %d to no writer: %d", symbol, e)
		}
	}
	if e := prefix.Write(nil, lengths, 0); e != api.ErrArg {
		t.Errorf("Write to no writer: %d", e)
	}
	var zero bits.Writer
	if e := prefix.Write(&zero, lengths, 0); e != api.OK || text(t, zero.Bytes(), zero.Len()) != "10" {
		t.Errorf("Write to a zero writer: %d", e)
	}
}

func TestWriteFull(t *testing.T) {
	lengths := stairs()
	for symbol, word := range wordsOf(lengths) {
		w := bits.New()
		w.Append(make([]byte, api.MaxBits/8), api.MaxBits-len(word)+1)
		before := w.Bytes()
		if e := prefix.Write(w, lengths, symbol); e != api.ErrFull || w.Len() != api.MaxBits-len(word)+1 || !bytes.Equal(w.Bytes(), before) {
			t.Errorf("Write of %d without room: %d", symbol, e)
		}
		if e := prefix.Write(w, lengths, 17); e != api.ErrNone {
			t.Errorf("Write of no symbol without room: %d", e)
		}
		w = bits.New()
		w.Append(make([]byte, api.MaxBits/8), api.MaxBits-len(word))
		if e := prefix.Write(w, lengths, symbol); e != api.OK || w.Len() != api.MaxBits {
			t.Errorf("Write of %d with just enough room: %d", symbol, e)
		}
	}
}

func TestReadErrors(t *testing.T) {
	r := open(t, "1011")
	r.Seek(1)
	for _, c := range wrongCodes() {
		if symbol, e := prefix.Read(r, c.lengths); symbol != 0 || e != c.want || r.At() != 1 {
			t.Errorf("Read in %v: %d, %d, want %d", c.lengths, symbol, e, c.want)
		}
		if symbol, e := prefix.Read(nil, c.lengths); symbol != 0 || e != api.ErrArg {
			t.Errorf("Read from no reader, in %v: %d, %d", c.lengths, symbol, e)
		}
	}
	if symbol, e := prefix.Read(nil, []int{1, 1}); symbol != 0 || e != api.ErrArg {
		t.Errorf("Read from no reader: %d, %d", symbol, e)
	}
	var zero bits.Reader
	if symbol, e := prefix.Read(&zero, []int{1, 1}); symbol != 0 || e != api.ErrShort || zero.At() != 0 {
		t.Errorf("Read from a zero reader: %d, %d", symbol, e)
	}
}

// readOf is what Read has to find at the beginning of digits: a symbol or an error.
func readOf(words []string, s string) (int, api.Errno) {
	for n := 1; n <= len(s); n++ {
		if symbol := slices.Index(words, s[:n]); symbol >= 0 {
			return symbol, api.OK
		}
		if !slices.ContainsFunc(words, func(word string) bool { return strings.HasPrefix(word, s[:n]) }) {
			return 0, api.ErrForm
		}
	}
	return 0, api.ErrShort
}

func TestReadExamples(t *testing.T) {
	cases := []struct {
		lengths []int
		s       string
		symbol  int
		want    api.Errno
	}{
		{[]int{2, 1, 3, 3}, "10", 0, api.OK}, {[]int{2, 1, 3, 3}, "0", 1, api.OK}, {[]int{2, 1, 3, 3}, "1101", 2, api.OK}, {[]int{2, 1, 3, 3}, "111", 3, api.OK},
		{[]int{2, 1, 3, 3}, "", 0, api.ErrShort}, {[]int{2, 1, 3, 3}, "1", 0, api.ErrShort}, {[]int{2, 1, 3, 3}, "11", 0, api.ErrShort},
		{[]int{1}, "0", 0, api.OK}, {[]int{1}, "1", 0, api.ErrForm}, {[]int{0, 3}, "000", 1, api.OK}, {[]int{0, 3}, "00", 0, api.ErrShort}, {[]int{0, 3}, "1", 0, api.ErrForm}, {[]int{0, 3}, "01", 0, api.ErrForm}, {[]int{0, 3}, "001", 0, api.ErrForm},
		{[]int{2, 2, 2}, "1", 0, api.ErrShort}, {[]int{2, 2, 2}, "11", 0, api.ErrForm}, {[]int{2, 2, 2}, "110", 0, api.ErrForm},
		{[]int{16}, strings.Repeat("0", 16), 0, api.OK}, {[]int{16}, strings.Repeat("0", 15), 0, api.ErrShort}, {[]int{16}, strings.Repeat("0", 15) + "1", 0, api.ErrForm}, {[]int{16}, strings.Repeat("0", 14) + "1", 0, api.ErrForm},
		{stairs(), strings.Repeat("1", 15) + "0", 15, api.OK}, {stairs(), strings.Repeat("1", 16), 16, api.OK}, {stairs(), strings.Repeat("1", 15), 0, api.ErrShort}, {stairs()[:16], strings.Repeat("1", 16), 0, api.ErrForm},
	}
	for _, c := range cases {
		r := open(t, c.s)
		at := 0
		if c.want == api.OK {
			at = c.lengths[c.symbol]
		}
		if symbol, e := prefix.Read(r, c.lengths); symbol != c.symbol || e != c.want || r.At() != at {
			t.Errorf("Read of %s in %v: %d, %d, at %d", c.s, c.lengths, symbol, e, r.At())
		}
	}
}

// TestReadAnything compares what is read from bits at random with the chapter's rule, also from within, and with what Decode says.
func TestReadAnything(t *testing.T) {
	random := rand.New(rand.NewSource(8))
	for _, lengths := range codes() {
		words := wordsOf(lengths)
		for range 20 {
			var s strings.Builder
			for range random.Intn(20) {
				s.WriteByte('0' + byte(random.Intn(2)))
			}
			ahead := digits(random.Intn(8), 3)
			want, f := readOf(words, s.String())
			r := open(t, ahead+s.String())
			r.Seek(3)
			symbol, e := prefix.Read(r, lengths)
			if symbol != want || e != f || e != api.OK && r.At() != 3 || e == api.OK && r.At() != 3+lengths[symbol] {
				t.Errorf("Read of %s in %v: %d, %d, at %d, want %d, %d", s.String(), lengths, symbol, e, r.At(), want, f)
			}
			b, n := packed(s.String())
			list, e := prefix.Decode(lengths, b, n, 1)
			if e != f || e == api.OK && !slices.Equal(list, []int{want}) || e != api.OK && len(list) != 0 {
				t.Errorf("Decode of %s in %v: %v, %d, want %d, %d", s.String(), lengths, list, e, want, f)
			}
		}
	}
}

func TestEncodeErrors(t *testing.T) {
	for _, c := range wrongCodes() {
		if b, n, e := prefix.Encode(c.lengths, []int{0}); len(b) != 0 || n != 0 || e != c.want {
			t.Errorf("Encode in %v: %v, %d, %d, want %d", c.lengths, b, n, e, c.want)
		}
	}
	lengths := []int{2, 0, 1, 0}
	for _, symbol := range []int{1, 3, 4, -1, math.MaxInt, math.MinInt} {
		for _, symbols := range [][]int{{symbol}, {0, 2, symbol}, {symbol, 0}, append(flat(0, api.MaxBits/2+1), symbol)} {
			if b, n, e := prefix.Encode(lengths, symbols); len(b) != 0 || n != 0 || e != api.ErrNone {
				t.Errorf("Encode of %d: %v, %d, %d", symbol, b, n, e)
			}
		}
	}
	for _, symbols := range [][]int{nil, {}} {
		if b, n, e := prefix.Encode(lengths, symbols); len(b) != 0 || n != 0 || e != api.OK {
			t.Errorf("Encode of nothing: %v, %d, %d", b, n, e)
		}
	}
}

func TestMaxBits(t *testing.T) {
	lengths := []int{16, 1, 0}
	symbols := append(flat(0, api.MaxBits/16-1), flat(1, 16)...)
	b, n, e := prefix.Encode(lengths, symbols)
	if len(b) != api.MaxBits/8 || n != api.MaxBits || e != api.OK {
		t.Fatalf("Encode of MaxBits: %d bytes, %d bits, %d", len(b), n, e)
	}
	if back, e := prefix.Decode(lengths, b, n, len(symbols)); !slices.Equal(back, symbols) || e != api.OK {
		t.Errorf("Decode of MaxBits: %d symbols, %d", len(back), e)
	}
	for _, symbol := range []int{0, 1} {
		if b, n, e := prefix.Encode(lengths, append(symbols, symbol)); len(b) != 0 || n != 0 || e != api.ErrFull {
			t.Errorf("Encode of more than MaxBits: %d bytes, %d bits, %d", len(b), n, e)
		}
	}
	if _, n, e := prefix.Encode(lengths, symbols[1:]); n != api.MaxBits-16 || e != api.OK {
		t.Errorf("Encode of less than MaxBits: %d bits, %d", n, e)
	}
	if b, n, e := prefix.Encode(lengths, append(symbols[1:], flat(1, 17)...)); len(b) != 0 || n != 0 || e != api.ErrFull {
		t.Errorf("Encode of a bit more than MaxBits: %d bytes, %d bits, %d", len(b), n, e)
	}
}

func TestDecodeExamples(t *testing.T) {
	lengths := []int{2, 1, 3, 3}
	b, n := packed("0101101110")
	cases := []struct {
		n, count int
		want     []int
		e        api.Errno
	}{
		{n, 5, []int{1, 0, 2, 3, 1}, api.OK}, {n, 4, []int{1, 0, 2, 3}, api.OK}, {n, 1, []int{1}, api.OK}, {n, 0, nil, api.OK}, {0, 0, nil, api.OK},
		{n, 6, nil, api.ErrShort}, {n, math.MaxInt, nil, api.ErrShort}, {0, 1, nil, api.ErrShort}, {1, 1, []int{1}, api.OK}, {2, 2, nil, api.ErrShort}, {3, 2, []int{1, 0}, api.OK}, {5, 3, nil, api.ErrShort}, {6, 3, []int{1, 0, 2}, api.OK},
		{-1, 0, nil, api.ErrArg}, {17, 0, nil, api.ErrArg}, {17, 1, nil, api.ErrArg}, {n, -1, nil, api.ErrArg}, {n, math.MinInt, nil, api.ErrArg}, {math.MaxInt, 1, nil, api.ErrArg}, {math.MinInt, 1, nil, api.ErrArg},
	}
	for _, c := range cases {
		if list, e := prefix.Decode(lengths, b, c.n, c.count); !slices.Equal(list, c.want) || e != c.e {
			t.Errorf("Decode of %d bits, %d symbols: %v, %d, want %v, %d", c.n, c.count, list, e, c.want, c.e)
		}
	}
	if list, e := prefix.Decode([]int{2, 1, 3}, b, n, 5); len(list) != 0 || e != api.ErrForm {
		t.Errorf("Decode of what is no word: %v, %d", list, e)
	}
	if list, e := prefix.Decode([]int{2, 1, 3}, b, n, 3); !slices.Equal(list, []int{1, 0, 2}) || e != api.OK {
		t.Errorf("Decode of what is ahead of no word: %v, %d", list, e)
	}
	if list, e := prefix.Decode(lengths, nil, 0, 0); len(list) != 0 || e != api.OK {
		t.Errorf("Decode of nothing: %v, %d", list, e)
	}
	if list, e := prefix.Decode(lengths, nil, 1, 0); len(list) != 0 || e != api.ErrArg {
		t.Errorf("Decode of a bit of nothing: %v, %d", list, e)
	}
}

func TestDecodeErrors(t *testing.T) {
	huge := make([]byte, api.MaxBits/8+1)
	for _, c := range wrongCodes() {
		for _, n := range []int{-1, 8, api.MaxBits + 1, 8*len(huge) + 1} {
			if list, e := prefix.Decode(c.lengths, huge, n, 1); len(list) != 0 || e != c.want {
				t.Errorf("Decode in %v: %v, %d, want %d", c.lengths, list, e, c.want)
			}
		}
	}
	cases := []struct {
		n, count int
		want     api.Errno
	}{
		{api.MaxBits, 1, api.OK}, {api.MaxBits, api.MaxBits, api.OK}, {api.MaxBits, api.MaxBits + 1, api.ErrShort},
		{api.MaxBits + 1, 0, api.ErrFull}, {api.MaxBits + 1, 1, api.ErrFull}, {8 * len(huge), 1, api.ErrFull},
		{api.MaxBits + 1, -1, api.ErrArg}, {8*len(huge) + 1, 1, api.ErrArg}, {8*len(huge) + 1, -1, api.ErrArg},
	}
	for _, c := range cases {
		list, e := prefix.Decode([]int{1, 1}, huge, c.n, c.count)
		if e != c.want || e != api.OK && len(list) != 0 || e == api.OK && len(list) != c.count {
			t.Errorf("Decode of %d bits, %d symbols: %d symbols, %d, want %d", c.n, c.count, len(list), e, c.want)
		}
	}
}

// TestNothingIsKept checks that no call changes its arguments, and that results do not hang on them.
func TestNothingIsKept(t *testing.T) {
	lengths, symbols, counts := []int{2, 1, 3, 3}, []int{0, 1, 2, 3, 3}, []int{5, 1, 1, 1}
	keptLengths, keptSymbols, keptCounts := slices.Clone(lengths), slices.Clone(symbols), slices.Clone(counts)
	words, _ := prefix.Codes(lengths)
	again, _ := prefix.Lengths(counts, 16)
	b, n, _ := prefix.Encode(lengths, symbols)
	keptBytes := slices.Clone(b)
	back, _ := prefix.Decode(lengths, b, n, 5)
	w := bits.New()
	prefix.Write(w, lengths, 3)
	r, _ := bits.Open(w.Bytes(), w.Len())
	symbol, e := prefix.Read(r, lengths)
	prefix.Cost(lengths, counts)
	prefix.Complete(lengths)
	if symbol != 3 || e != api.OK || !slices.Equal(lengths, keptLengths) || !slices.Equal(symbols, keptSymbols) || !slices.Equal(counts, keptCounts) || !bytes.Equal(b, keptBytes) {
		t.Errorf("an argument was changed")
	}
	clear(lengths)
	clear(symbols)
	clear(counts)
	clear(b)
	if !slices.Equal(words, []int{2, 0, 6, 7}) || !slices.Equal(again, []int{1, 3, 3, 2}) || !slices.Equal(back, keptSymbols) {
		t.Errorf("a result hangs on an argument: %v, %v, %v", words, again, back)
	}
}
