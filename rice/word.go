package rice

import (
	"shawm/api"
	"shawm/bits"
)

const (
	maxParameter = 14
	escape       = 24 // the unary number ahead of a folded number in wide bits
	wide         = 32
)

// word is a unary number, and then a number in width bits.
type word struct{ unary, rest, width int }

// wordOf is the word of an integer, folded, with the parameter k.
func wordOf(u, k int) word {
	if q := u >> k; q < escape {
		return word{q, u & (1<<k - 1), k}
	}
	return word{escape, u, wide}
}

func (x word) bits() int { return x.unary + 1 + x.width }

// write hands the word on to what writes unary numbers, and to what writes numbers in as many bits.
func (x word) write(unary func(n int) api.Errno, number func(v, n int) api.Errno) api.Errno {
	if e := unary(x.unary); e != api.OK {
		return e
	}
	return number(x.rest, x.width)
}

// Put adds the word of v with the parameter k to w.
func Put(w *bits.Writer, v, k int) api.Errno {
	if w == nil || !isParameter(k) {
		return api.ErrArg
	}
	if !isNumber(v) {
		return api.ErrRange
	}
	x := wordOf(fold(v), k)
	if !hasRoom(w, x.bits()) {
		return api.ErrFull
	}
	return x.write(w.Unary, w.Put)
}

// Get reads the word of an integer with the parameter k.
func Get(r *bits.Reader, k int) (int, api.Errno) {
	if r == nil || !isParameter(k) {
		return 0, api.ErrArg
	}
	at := r.At()
	u, e := folded(r, k)
	if e != api.OK {
		r.Seek(at)
		return 0, e
	}
	return unfold(u), api.OK
}

// folded reads a word, and returns the folded integer. With an error it stops in the midst of the bits.
func folded(r *bits.Reader, k int) (int, api.Errno) {
	q, e := r.Unary(escape)
	if e != api.OK {
		return 0, e
	}
	if q < escape {
		rest, e := r.Get(k)
		return q<<k + rest, e
	}
	u, e := r.Get(wide)
	if e == api.OK && u>>k < escape {
		return 0, api.ErrForm
	}
	return u, e
}

// hasRoom tells whether n bits more can be written: a writer that is full in their midst would keep the first ones.
func hasRoom(w *bits.Writer, n int) bool { return n <= api.MaxBits-w.Len() }
