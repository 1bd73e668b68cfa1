package book_test

import (
	"math"
	"math/rand"
	"slices"
	"strconv"
	"strings"
	"testing"

	"shawm/api"
	"shawm/bits"
	"shawm/bittext"
	"shawm/book"
	"shawm/prefix"
)

// words are those of all symbols, as digits; of book 0 one without digits.
func (b row) words(t *testing.T) []string {
	t.Helper()
	if b.most == 0 {
		return []string{""}
	}
	lengths := b.lengths(t)
	codes, e := prefix.Codes(lengths)
	if e != api.OK {
		t.Fatalf("there are no words: %d", e)
	}
	var words []string
	for symbol, code := range codes {
		words = append(words, bittext.Number(code, lengths[symbol]))
	}
	return words
}

// text is a list that fits, written, by the chapter's words.
func (b row) text(t *testing.T, l []int) string {
	t.Helper()
	var s strings.Builder
	words, symbols := b.words(t), b.symbols()
	for group := range slices.Chunk(l, b.dimension) {
		var wanted []int
		for _, v := range group {
			wanted = append(wanted, min(size(v), b.most))
		}
		s.WriteString(words[slices.IndexFunc(symbols, func(d []int) bool { return slices.Equal(d, wanted) })])
		for i, v := range group {
			if v > 0 {
				s.WriteString("0")
			} else if v < 0 {
				s.WriteString("1")
			}
			if b.hasEscape && wanted[i] == b.most {
				s.WriteString(bittext.Gamma(size(v) - b.most + 1))
			}
		}
	}
	return s.String()
}

// TestWrite is the promise P17.5.
func TestWrite(t *testing.T) {
	for _, l := range lists() {
		was := slices.Clone(l)
		for number, b := range rows() {
			if !b.fits(l) {
				continue
			}
			w := bits.New()
			w.Put(5, 3)
			if e := book.Write(w, number, l); e != api.OK || bittext.Of(w) != "101"+b.text(t, l) || !slices.Equal(l, was) {
				t.Fatalf("Write of %v with %d: %s, %d", l, number, bittext.Of(w), e)
			}
			if cost, _ := book.Cost(number, l); w.Len() != 3+cost {
				t.Errorf("Write of %v with %d adds %d bits, and Cost says %d", l, number, w.Len()-3, cost)
			}
			w.Put(2, 2)
			r, _ := bits.Open(w.Bytes(), w.Len())
			r.Get(3)
			back, e := book.Read(r, number, len(l))
			if len(l) > 4096 {
				if len(back) != 0 || e != api.ErrForm || r.At() != 3 {
					t.Errorf("Read of %d values: %d, it stops at %d", len(l), e, r.At())
				}
			} else if !slices.Equal(back, l) || e != api.OK || r.Left() != 2 {
				t.Errorf("Read of Write of %v: %v, %d, and %d bits are left", l, back, e, r.Left())
			}
		}
	}
	w := &bits.Writer{}
	if e := book.Write(w, 1, []int{0, 1, 0, -1}); e != api.OK || w.Len() != 7 || bittext.Of(w)[5:] != "01" {
		t.Errorf("Write of 0 1 0 -1: %s, %d", bittext.Of(w), e)
	}
	lengths, _ := book.Lengths(7)
	codes, _ := prefix.Codes(lengths)
	w = bits.New()
	if e := book.Write(w, 7, []int{-40}); e != api.OK || bittext.Of(w) != bittext.Number(codes[31], lengths[31])+"1"+"0001010" {
		t.Errorf("Write of -40: %s, %d", bittext.Of(w), e)
	}
}

func TestWriteErrors(t *testing.T) {
	refused := func(w *bits.Writer, number int, l []int, want api.Errno) {
		t.Helper()
		n := w.Len()
		if e := book.Write(w, number, l); e != want || w.Len() != n {
			t.Errorf("Write of %v with %d: %d, want the error %d; it adds %d bits", l, number, e, want, w.Len()-n)
		}
	}
	for _, l := range slices.Concat(noLists(), lists()) {
		for _, number := range noBooks() {
			refused(bits.New(), number, l, api.ErrNone)
			refused(nil, number, l, api.ErrArg)
		}
	}
	full := bittext.Filled(0)
	for number, b := range rows() {
		for _, l := range noLists() {
			refused(bits.New(), number, l, api.ErrRange)
			refused(full, number, l, api.ErrRange)
			refused(nil, number, l, api.ErrArg)
		}
		for _, l := range lists() {
			refused(nil, number, l, api.ErrArg)
			if !b.fits(l) {
				refused(bits.New(), number, l, api.ErrForm)
				refused(full, number, l, api.ErrForm)
			} else if cost, _ := book.Cost(number, l); cost > 0 {
				refused(full, number, l, api.ErrFull)
			}
		}
	}
}

func TestWriteFull(t *testing.T) {
	for number, l := range [][]int{{0, 0, 0}, {0, 1, 0, -1}, {1, 2, 0, 0}, {4, -4}, {7, 0, -1, 3}, {12, 12}, {15, -1023}, {31, -40, 0}} {
		n := len(rows()[number].text(t, l))
		for room := range n {
			w := bittext.Filled(room)
			if e := book.Write(w, number, l); e != api.ErrFull || w.Len() != api.MaxBits-room {
				t.Errorf("Write of %d bits into %d: %d", n, room, e)
			}
		}
		w := bittext.Filled(n)
		if e := book.Write(w, number, l); e != api.OK || w.Len() != api.MaxBits {
			t.Errorf("Write of %d bits into as many: %d", n, e)
		}
	}
}

// read is Read by the chapter's words, from digits: the values, how many digits they have, and the error.
func (b row) read(s string, words []string, symbols [][]int, n int) ([]int, int, api.Errno) {
	var l []int
	at := 0
	for len(l) < n {
		symbol := slices.IndexFunc(words, func(word string) bool { return strings.HasPrefix(s[at:], word) })
		if symbol < 0 {
			return nil, 0, api.ErrShort
		}
		at += len(words[symbol])
		for _, v := range symbols[symbol] {
			if v > 0 {
				if at == len(s) {
					return nil, 0, api.ErrShort
				}
				sign := 1 - 2*int(s[at]-'0')
				at++
				if b.hasEscape && v == b.most {
					zeros := strings.IndexByte(s[at:], '1')
					if zeros > 20 || zeros < 0 && len(s)-at > 20 {
						return nil, 0, api.ErrForm
					}
					if zeros < 0 || at+2*zeros+1 > len(s) {
						return nil, 0, api.ErrShort
					}
					g, _ := strconv.ParseInt(s[at:at+2*zeros+1], 2, 64)
					v += int(g) - 1
					at += 2*zeros + 1
				}
				if v > 1023 {
					return nil, 0, api.ErrRange
				}
				v *= sign
			}
			l = append(l, v)
		}
	}
	return l, at, api.OK
}

// TestRead reads what is written, cut at each bit, and with bits that are not those that were written.
func TestRead(t *testing.T) {
	random := rand.New(rand.NewSource(18))
	errors := map[api.Errno]int{}
	for number, b := range rows() {
		words, symbols := b.words(t), b.symbols()
		try := func(s string, n int) {
			t.Helper()
			want, at, f := b.read(s, words, symbols, n)
			r := bittext.Open("10" + s)
			r.Get(2)
			l, e := book.Read(r, number, n)
			if !slices.Equal(l, want) || e != f || r.At() != 2+at {
				t.Fatalf("Read of %d from %s with %d: %v, %d, to %d, want %v, %d, to %d", n, s, number, l, e, r.At()-2, want, f, at)
			}
			errors[e]++
		}
		for _, l := range lists() {
			if !b.fits(l) || len(l) > 40 {
				continue
			}
			s := b.text(t, l)
			for n := range len(s) + 1 {
				try(s[:n], len(l))
			}
			try(s, len(l)/2/b.dimension*b.dimension)
			if at := random.Intn(len(s) + 1); at < len(s) {
				try(s[:at]+bittext.Number(1-int(s[at]-'0'), 1)+s[at+1:], len(l))
			}
		}
		for range 300 {
			// Behind the greatest digits there may be an escape, of too many zeros, too great, or cut off.
			s := words[len(words)-1-random.Intn(min(2, len(words)))] + "0" + strings.Repeat("0", random.Intn(25))
			for range random.Intn(60) {
				s += bittext.Number(random.Intn(2), 1)
			}
			try(s, b.dimension*random.Intn(12))
		}
	}
	if errors[api.ErrShort] == 0 || errors[api.ErrForm] == 0 || errors[api.ErrRange] == 0 || len(errors) != 4 {
		t.Errorf("not all errors were seen: %v", errors)
	}
}

func TestReadEscapes(t *testing.T) {
	for _, number := range []int{6, 7} {
		b := rows()[number]
		words := b.words(t)
		top, n := words[len(words)-1], b.dimension
		try := func(s string, want api.Errno) {
			t.Helper()
			r := bittext.Open("1" + s)
			r.Get(1)
			if l, e := book.Read(r, number, n); len(l) != 0 || e != want || r.At() != 1 {
				t.Errorf("Read of %s with %d: %v, %d, want the error %d; it stops at %d", s, number, l, e, want, r.At())
			}
		}
		most := 1023 - b.most + 1
		for _, escape := range []int{most + 1, 2 * most, 1 << 20, 1<<21 - 1} {
			try(top+"0"+bittext.Gamma(escape), api.ErrRange)
			try(top+"1"+bittext.Gamma(escape), api.ErrRange)
			try(top+"1"+bittext.Gamma(escape)[:len(bittext.Gamma(escape))-1], api.ErrShort)
			// The first value is out of range: what is behind it does not matter.
			try(top+"0"+bittext.Gamma(escape)+strings.Repeat("0", 30), api.ErrRange)
		}
		try(top+"0"+strings.Repeat("0", 21), api.ErrForm)
		try(top+"0"+strings.Repeat("0", 20), api.ErrShort)
		try(top+"0"+strings.Repeat("0", 21)+"1"+strings.Repeat("0", 30), api.ErrForm)
	}
	words := rows()[6].words(t)
	r := bittext.Open(words[255] + "0" + bittext.Gamma(1009) + "1" + bittext.Gamma(1))
	if l, e := book.Read(r, 6, 2); !slices.Equal(l, []int{1023, -15}) || e != api.OK || r.Left() != 0 {
		t.Errorf("Read of the greatest value: %v, %d", l, e)
	}
}

func TestReadErrors(t *testing.T) {
	try := func(number, n int, want api.Errno) {
		t.Helper()
		r := bittext.Open("111" + strings.Repeat("0", 100))
		r.Get(3)
		if l, e := book.Read(r, number, n); len(l) != 0 || e != want || r.At() != 3 {
			t.Errorf("Read of %d with %d: %v, %d, want the error %d; it stops at %d", n, number, l, e, want, r.At())
		}
		if l, e := book.Read(nil, number, n); len(l) != 0 || e != api.ErrArg {
			t.Errorf("Read without a reader: %v, %d", l, e)
		}
	}
	for number, b := range rows() {
		for _, n := range []int{-1, -4, 4097, 4100, 1 << 40, math.MaxInt, math.MinInt} {
			try(number, n, api.ErrForm)
		}
		for n := range 4 * b.dimension {
			if n%b.dimension != 0 {
				try(number, n, api.ErrForm)
			}
		}
		// No values need no bits.
		if l, e := book.Read(&bits.Reader{}, number, 0); len(l) != 0 || e != api.OK {
			t.Errorf("Read of no values: %v, %d", l, e)
		}
		if l, e := book.Read(nil, number, 0); len(l) != 0 || e != api.ErrArg {
			t.Errorf("Read of no values without a reader: %v, %d", l, e)
		}
	}
	for _, number := range noBooks() {
		for _, n := range []int{0, 4, 3, -1, 4097, math.MinInt} {
			try(number, n, api.ErrNone)
		}
	}
	if l, e := book.Read(&bits.Reader{}, 0, 4096); !slices.Equal(l, make([]int, 4096)) || e != api.OK {
		t.Errorf("Read of the most zeros: %v, %d", l, e)
	}
	r := bittext.Open(strings.Repeat("00", 1024))
	if l, e := book.Read(r, 1, 4096); !slices.Equal(l, make([]int, 4096)) || e != api.OK || r.Left() != 0 {
		t.Errorf("Read of the most values: %v, %d", l, e)
	}
}

// TestMemory finds results that share memory.
func TestMemory(t *testing.T) {
	r := bittext.Open(strings.Repeat("00", 2))
	first, _ := book.Read(r, 1, 4)
	second, e := book.Read(r, 1, 4)
	first[0], first = 9, append(first[:4:4], 7)
	if !slices.Equal(second, []int{0, 0, 0, 0}) || e != api.OK || r.Left() != 0 {
		t.Errorf("the second list is %v, %d", second, e)
	}
	l := []int{1, 0, -1, 1}
	w := bits.New()
	book.Write(w, 1, l)
	before := bittext.Of(w)
	clear(l)
	if bittext.Of(w) != before {
		t.Error("the writer keeps the list")
	}
}
