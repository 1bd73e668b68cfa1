package scale_test

import (
	"math/rand"
	"slices"
	"strings"
	"testing"

	"shawm/api"
	"shawm/bits"
	"shawm/bittext"
	"shawm/prefix"
	"shawm/scale"
)

// words are those of the steps, from -95 on.
func words(t *testing.T) []string {
	t.Helper()
	l := lengths(t)
	codes, e := prefix.Codes(l)
	if e != api.OK {
		t.Fatalf("there are no words: %d", e)
	}
	var words []string
	for symbol, code := range codes {
		words = append(words, bittext.Number(code, l[symbol]))
	}
	return words
}

// text is scales, written, by the chapter's words.
func (x example) text(words []string) string {
	first := slices.Index(x.used, true)
	if first < 0 {
		return ""
	}
	s := bittext.Number(x.scales[first], 7)
	for _, d := range x.steps() {
		s += words[d+95]
	}
	return s
}

// TestWrite is the promise P19.5.
func TestWrite(t *testing.T) {
	words := words(t)
	for _, x := range examples() {
		scales, used := slices.Clone(x.scales), slices.Clone(x.used)
		w := bits.New()
		w.Put(5, 3)
		if e := scale.Write(w, x.scales, x.used); e != api.OK || bittext.Of(w) != "101"+x.text(words) {
			t.Fatalf("Write of %v: %s, %d", x, bittext.Of(w), e)
		}
		if cost, _ := scale.Cost(x.scales, x.used); w.Len() != 3+cost {
			t.Errorf("Write of %v adds %d bits, and Cost says %d", x, w.Len()-3, cost)
		}
		w.Put(2, 2)
		r, _ := bits.Open(w.Bytes(), w.Len())
		r.Get(3)
		back, e := scale.Read(r, x.used)
		isIn(t, "Read of Write", back, e, scales)
		isIn(t, "the scales", x.scales, e, scales)
		isIn(t, "the bands that are used", x.used, e, used)
		if r.Left() != 2 {
			t.Errorf("%d bits are left", r.Left())
		}
	}
	w := &bits.Writer{}
	if e := scale.Write(w, []int{10, 0, 12}, []bool{true, false, true}); e != api.OK || bittext.Of(w) != "0001010"+words[2+95] {
		t.Errorf("Write of 10 and 12: %s, %d", bittext.Of(w), e)
	}
}

func TestWriteErrors(t *testing.T) {
	refused := func(w *bits.Writer, x example, want api.Errno) {
		t.Helper()
		n := w.Len()
		if e := scale.Write(w, x.scales, x.used); e != want || w.Len() != n {
			t.Errorf("Write of %v: %d, want the error %d; it adds %d bits", x, e, want, w.Len()-n)
		}
	}
	full := bittext.Filled(0)
	for _, x := range wrongScales() {
		refused(bits.New(), x.example, x.want)
		refused(full, x.example, x.want)
		refused(nil, x.example, api.ErrArg)
	}
	words := words(t)
	for _, x := range examples()[:20] {
		refused(nil, x, api.ErrArg)
		n := len(x.text(words))
		for room := range n {
			refused(bittext.Filled(room), x, api.ErrFull)
			if room > 30 {
				break
			}
		}
		w := bittext.Filled(n)
		if e := scale.Write(w, x.scales, x.used); e != api.OK || w.Len() != api.MaxBits {
			t.Errorf("Write of %d bits into as many: %d", n, e)
		}
		if n > 0 {
			refused(bittext.Filled(n-1), x, api.ErrFull)
		}
	}
}

// read is Read by the chapter's words, from digits: the scales, how many digits they have, and the error.
func read(s string, words []string, used []bool) ([]int, int, api.Errno) {
	var l []int
	at, before := 0, -1
	for _, isUsed := range used {
		v := 0
		switch {
		case !isUsed:
		case before < 0:
			if len(s) < 7 {
				return nil, 0, api.ErrShort
			}
			for _, digit := range s[:7] {
				v = 2*v + int(digit-'0')
			}
			at = 7
		default:
			symbol := slices.IndexFunc(words, func(word string) bool { return strings.HasPrefix(s[at:], word) })
			if symbol < 0 {
				return nil, 0, api.ErrShort
			}
			at += len(words[symbol])
			v = before + symbol - 95
		}
		if v < 0 || v > 95 {
			return nil, 0, api.ErrRange
		}
		if isUsed {
			before = v
		}
		l = append(l, v)
	}
	return l, at, api.OK
}

// TestRead reads what is written, cut at each bit, with other bits, and for other bands.
func TestRead(t *testing.T) {
	random := rand.New(rand.NewSource(5))
	words := words(t)
	errors := map[api.Errno]int{}
	try := func(s string, used []bool) {
		t.Helper()
		want, at, f := read(s, words, used)
		r := bittext.Open("10" + s)
		r.Get(2)
		was := slices.Clone(used)
		l, e := scale.Read(r, used)
		if !slices.Equal(l, want) || e != f || r.At() != 2+at {
			t.Fatalf("Read of %s for %v: %v, %d, to %d, want %v, %d, to %d", s, used, l, e, r.At()-2, want, f, at)
		}
		isIn(t, "the bands that are used", used, api.OK, was)
		errors[e]++
	}
	for _, x := range examples() {
		s := x.text(words)
		if len(s) > 200 {
			try(s, x.used)
			continue
		}
		for n := range len(s) + 1 {
			try(s[:n], x.used)
		}
		for range 10 {
			if at := random.Intn(len(s) + 1); at < len(s) {
				try(s[:at]+bittext.Number(1-int(s[at]-'0'), 1)+s[at+1:], x.used)
			}
		}
		if len(x.used) < 128 {
			try(s, append(slices.Clone(x.used), true))
		}
		try(s, anyUsed(random, len(x.used)))
	}
	for range 1000 {
		s := ""
		for range random.Intn(120) {
			s += bittext.Number(random.Intn(2), 1)
		}
		try(s, anyUsed(random, random.Intn(30)))
	}
	if errors[api.OK] == 0 || errors[api.ErrShort] == 0 || errors[api.ErrRange] == 0 || len(errors) != 3 {
		t.Errorf("not all errors were seen: %v", errors)
	}
}

func TestReadErrors(t *testing.T) {
	words := words(t)
	step := func(d int) string { return words[d+95] }
	yes := slices.Repeat([]bool{true}, 129)
	try := func(s string, used []bool, want api.Errno) {
		t.Helper()
		r := bittext.Open("1" + s)
		r.Get(1)
		if l, e := scale.Read(r, used); len(l) != 0 || e != want || r.At() != 1 {
			t.Errorf("Read of %s for %v: %v, %d, want the error %d; it stops at %d", s, used, l, e, want, r.At())
		}
		if l, e := scale.Read(nil, used); len(l) != 0 || e != api.ErrArg {
			t.Errorf("Read without a reader: %v, %d", l, e)
		}
	}
	for v := 96; v < 128; v++ {
		try(bittext.Number(v, 7), yes[:1], api.ErrRange)
		// What is behind it does not matter.
		try(bittext.Number(v, 7)+step(-60), yes[:2], api.ErrRange)
		try(bittext.Number(v, 7), yes[:2], api.ErrRange)
	}
	for v := range 96 {
		first := bittext.Number(v, 7)
		try(first+step(0)+step(0), yes[:4], api.ErrShort)
		if v > 0 {
			try(first+step(96-v), yes[:2], api.ErrRange)
			try(first+step(96-v), []bool{false, true, false, true, true, false}, api.ErrRange)
			try(first+step(95), yes[:3], api.ErrRange)
		}
		if v < 95 {
			try(first+step(-v-1), yes[:2], api.ErrRange)
			try(first+step(-v-1)+step(v+1), yes[:3], api.ErrRange)
			try(first+step(-95), yes[:3], api.ErrRange)
		}
	}
	for _, s := range []string{"", "0", "111111"} {
		try(s, yes[:1], api.ErrShort)
		try(s, []bool{false, false, true}, api.ErrShort)
	}
	for _, used := range [][]bool{yes, make([]bool, 129), make([]bool, 5000)} {
		try("", used, api.ErrArg)
		try(strings.Repeat("0", 300), used, api.ErrArg)
	}
	for _, used := range [][]bool{nil, {}, {false}, make([]bool, 128)} {
		l, e := scale.Read(&bits.Reader{}, used)
		isIn(t, "Read of no scales", l, e, make([]int, len(used)))
		if l, e := scale.Read(nil, used); len(l) != 0 || e != api.ErrArg {
			t.Errorf("Read of no scales without a reader: %v, %d", l, e)
		}
	}
	if l, e := scale.Read(&bits.Reader{}, yes[:1]); len(l) != 0 || e != api.ErrShort {
		t.Errorf("Read of a reader without bits: %v, %d", l, e)
	}
}
