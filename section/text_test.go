package section_test

import (
	"math"
	"math/rand"
	"slices"
	"strings"
	"testing"

	"shawm/api"
	"shawm/bits"
	"shawm/bittext"
	"shawm/book"
	"shawm/section"
)

// text is an example, written in sections, by the chapter's words.
func (x example) text(t *testing.T, s []api.Section) string {
	t.Helper()
	var all strings.Builder
	parts := x.parts()
	for _, y := range s {
		all.WriteString(bittext.Number(y.Book, 3) + bittext.Gamma(y.Bands))
		for _, part := range parts[:y.Bands] {
			w := bits.New()
			if e := book.Write(w, y.Book, part); e != api.OK {
				t.Fatalf("Write of %v with %d: %d", part, y.Book, e)
			}
			all.WriteString(bittext.Of(w))
		}
		parts = parts[y.Bands:]
	}
	return all.String()
}

// TestWrite is the promise P18.6.
func TestWrite(t *testing.T) {
	random := rand.New(rand.NewSource(7))
	for _, x := range examples() {
		chosen, _, _ := section.Choose(x.widths, x.l)
		for _, s := range [][]api.Section{chosen, anySections(random, x)} {
			was := []example{{slices.Clone(x.widths), slices.Clone(x.l)}}
			kept := slices.Clone(s)
			w := bits.New()
			w.Put(5, 3)
			if e := section.Write(w, x.widths, x.l, s); e != api.OK || bittext.Of(w) != "101"+x.text(t, s) {
				t.Fatalf("Write of %v in %v: %s, %d", x, s, bittext.Of(w), e)
			}
			if cost, _ := section.Cost(x.widths, x.l, s); w.Len() != 3+cost {
				t.Errorf("Write of %v adds %d bits, and Cost says %d", x, w.Len()-3, cost)
			}
			w.Put(2, 2)
			r, _ := bits.Open(w.Bytes(), w.Len())
			r.Get(3)
			l, back, e := section.Read(r, x.widths)
			isIn(t, "Read of Write", l, e, was[0].l)
			isIn(t, "the sections", back, e, kept)
			isIn(t, "the written sections", s, e, kept)
			isIn(t, "the written values", x.l, e, was[0].l)
			isIn(t, "the widths", x.widths, e, was[0].widths)
			if r.Left() != 2 {
				t.Errorf("%d bits are left", r.Left())
			}
		}
	}
	w := &bits.Writer{}
	if e := section.Write(w, []int{4, 4, 4}, make([]int, 12), sections([2]int{0, 3})); e != api.OK || bittext.Of(w) != "000"+"011" {
		t.Errorf("Write of zeros: %s, %d", bittext.Of(w), e)
	}
	if e := section.Write(w, nil, nil, nil); e != api.OK || w.Len() != 6 {
		t.Errorf("Write of no bands: %s, %d", bittext.Of(w), e)
	}
}

func TestWriteErrors(t *testing.T) {
	refused := func(w *bits.Writer, x example, s []api.Section, want api.Errno) {
		t.Helper()
		n := w.Len()
		if e := section.Write(w, x.widths, x.l, s); e != want || w.Len() != n {
			t.Errorf("Write of %v in %v: %d, want the error %d; it adds %d bits", x, s, e, want, w.Len()-n)
		}
	}
	full := bittext.Filled(0)
	good := example{[]int{4, 2, 3}, []int{0, 1, 0, -1, 5, 0, 0, 0, 0}}
	right := sections([2]int{1, 1}, [2]int{4, 1}, [2]int{0, 1})
	for _, x := range wrongValues() {
		for _, s := range append(wrongSections(), right) {
			refused(bits.New(), example{x.widths, x.l}, s, x.want)
			refused(full, example{x.widths, x.l}, s, x.want)
			refused(nil, example{x.widths, x.l}, s, api.ErrArg)
		}
	}
	for _, s := range wrongSections() {
		refused(bits.New(), good, s, api.ErrForm)
		refused(full, good, s, api.ErrForm)
		refused(nil, good, s, api.ErrArg)
	}
	refused(nil, good, right, api.ErrArg)
	refused(nil, example{}, nil, api.ErrArg)
	n := len(good.text(t, right))
	for room := range n {
		refused(bittext.Filled(room), good, right, api.ErrFull)
	}
	w := bittext.Filled(n)
	if e := section.Write(w, good.widths, good.l, right); e != api.OK || w.Len() != api.MaxBits {
		t.Errorf("Write of %d bits into as many: %d", n, e)
	}
	if e := section.Write(full, nil, nil, nil); e != api.OK {
		t.Errorf("Write of no bands into no room: %d", e)
	}
}

// read is Read by the chapter's words; the reader may stop anywhere.
func read(r *bits.Reader, widths []int) ([]int, []api.Section, api.Errno) {
	var l []int
	var s []api.Section
	for at := 0; at < len(widths); {
		b, e := r.Get(3)
		if e != api.OK {
			return nil, nil, e
		}
		n, e := r.Gamma()
		if e != api.OK {
			return nil, nil, e
		}
		if len(s) > 0 && s[len(s)-1].Book == b || at+n > len(widths) {
			return nil, nil, api.ErrForm
		}
		s = append(s, api.Section{Book: b, Bands: n})
		for range n {
			dimension, _, _ := book.Shape(b)
			if widths[at]%dimension != 0 {
				return nil, nil, api.ErrForm
			}
			values, e := book.Read(r, b, widths[at])
			if e != api.OK {
				return nil, nil, e
			}
			l = append(l, values...)
			at++
		}
	}
	return l, s, api.OK
}

// TestRead reads what is written, cut at each bit, with other bits, and for other widths.
func TestRead(t *testing.T) {
	random := rand.New(rand.NewSource(8))
	errors := map[api.Errno]int{}
	try := func(s string, widths []int) {
		t.Helper()
		other := bittext.Open(s)
		wantL, wantS, want := read(other, widths)
		at := 2
		if want == api.OK {
			at += other.At()
		}
		r := bittext.Open("10" + s)
		r.Get(2)
		l, found, e := section.Read(r, widths)
		if !slices.Equal(l, wantL) || !slices.Equal(found, wantS) || e != want || r.At() != at {
			t.Fatalf("Read of %s for %v: %v, %v, %d, to %d, want %v, %v, %d, to %d", s, widths, l, found, e, r.At(), wantL, wantS, want, at)
		}
		errors[e]++
	}
	for _, x := range examples() {
		if len(x.widths) > 12 {
			continue
		}
		s := x.text(t, anySections(random, x))
		for n := range len(s) + 1 {
			try(s[:n], x.widths)
		}
		for range 20 {
			if at := random.Intn(len(s) + 1); at < len(s) {
				try(s[:at]+bittext.Number(1-int(s[at]-'0'), 1)+s[at+1:], x.widths)
			}
		}
		try(s, append(slices.Clone(x.widths), 4))
		for i := range x.widths {
			widths := slices.Clone(x.widths)
			widths[i] = 1 + random.Intn(128)
			try(s, widths)
			try(s, widths[:i])
		}
	}
	for range 2000 {
		s := ""
		for range random.Intn(120) {
			s += bittext.Number(random.Intn(2), 1)
		}
		try(s, anyOf(random, random.Intn(10)).widths)
	}
	if errors[api.OK] == 0 || errors[api.ErrShort] == 0 || errors[api.ErrForm] == 0 {
		t.Errorf("not all errors were seen: %v", errors)
	}
}

func TestReadErrors(t *testing.T) {
	try := func(s string, widths []int, want api.Errno) {
		t.Helper()
		r := bittext.Open("1" + s)
		r.Get(1)
		if l, found, e := section.Read(r, widths); len(l) != 0 || len(found) != 0 || e != want || r.At() != 1 {
			t.Errorf("Read of %s for %v: %v, %v, %d, want the error %d; it stops at %d", s, widths, l, found, e, want, r.At())
		}
	}
	zeros := strings.Repeat("0", 21)
	fours := []int{4, 4, 4}
	for _, c := range []struct {
		s    string
		want api.Errno
	}{
		{"", api.ErrShort}, {"00", api.ErrShort}, {"000", api.ErrShort}, {"00001", api.ErrShort}, {"000" + zeros[1:], api.ErrShort}, {"000" + zeros, api.ErrForm}, {"000" + bittext.Gamma(2), api.ErrShort},
		{"000" + bittext.Gamma(4), api.ErrForm}, {"000" + bittext.Gamma(1<<20), api.ErrForm}, {"000" + bittext.Gamma(2) + "000" + bittext.Gamma(1), api.ErrForm}, {"000" + bittext.Gamma(2) + "001" + bittext.Gamma(2), api.ErrForm},
		// The number of bands is read before the book is compared.
		{"000" + bittext.Gamma(2) + "000", api.ErrShort}, {"000" + bittext.Gamma(2) + "000" + "01", api.ErrShort}, {"000" + bittext.Gamma(2) + "000" + zeros, api.ErrForm},
		{"001" + bittext.Gamma(4) + "1", api.ErrForm}, {"001" + bittext.Gamma(1) + "00" + "001" + bittext.Gamma(1) + "00", api.ErrForm}, {"001" + bittext.Gamma(3) + "00" + "00" + "0", api.ErrShort},
	} {
		try(c.s, fours, c.want)
	}
	// The widths are looked at band by band.
	try("001"+bittext.Gamma(2)+"0", []int{4, 3}, api.ErrShort)
	try("001"+bittext.Gamma(2)+"00", []int{4, 3}, api.ErrForm)
	try("001"+bittext.Gamma(2)+"00", []int{3, 4}, api.ErrForm)
	try("101"+bittext.Gamma(2)+"00000"+"0", []int{2, 3}, api.ErrForm)
	lengths, _ := book.Lengths(7)
	top := strings.Repeat("1", lengths[31]) + "0"
	try("111"+bittext.Gamma(1)+top+bittext.Gamma(994), []int{1}, api.ErrRange)
	try("111"+bittext.Gamma(1)+top+zeros, []int{1}, api.ErrForm)
	for _, widths := range [][]int{{0}, {129}, {4, 0}, {4, -1}, make([]int, 129), slices.Repeat([]int{1}, 129), {math.MaxInt}, {math.MinInt}, {math.MaxInt, math.MaxInt, 2}} {
		try("000011", widths, api.ErrArg)
		try("", widths, api.ErrArg)
		if l, s, e := section.Read(nil, widths); len(l) != 0 || len(s) != 0 || e != api.ErrArg {
			t.Errorf("Read without a reader: %v, %v, %d", l, s, e)
		}
	}
	for _, widths := range [][]int{nil, {4}} {
		if l, s, e := section.Read(nil, widths); len(l) != 0 || len(s) != 0 || e != api.ErrArg {
			t.Errorf("Read without a reader: %v, %v, %d", l, s, e)
		}
	}
	if l, s, e := section.Read(&bits.Reader{}, nil); len(l) != 0 || len(s) != 0 || e != api.OK {
		t.Errorf("Read of no bands: %v, %v, %d", l, s, e)
	}
	if l, s, e := section.Read(&bits.Reader{}, fours); len(l) != 0 || len(s) != 0 || e != api.ErrShort {
		t.Errorf("Read of a reader without bits: %v, %v, %d", l, s, e)
	}
}

// TestMemory finds results that share memory with others, or with arguments.
func TestMemory(t *testing.T) {
	widths, l := []int{4, 4}, []int{0, 1, 0, -1, 0, 0, 0, 0}
	first, _, _ := section.Choose(widths, l)
	clear(first)
	second, _, e := section.Choose(widths, l)
	isIn(t, "Choose again", second, e, sections([2]int{1, 1}, [2]int{0, 1}))
	books := []int{1, 1, 0}
	runs, _ := section.Runs(books)
	back, _ := section.Books(runs)
	clear(back)
	isIn(t, "the books", books, api.OK, []int{1, 1, 0})
	isIn(t, "the sections", runs, api.OK, sections([2]int{1, 2}, [2]int{0, 1}))
}
