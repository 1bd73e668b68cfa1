package book

import (
	"shawm/api"
	"shawm/bits"
	"shawm/prefix"
)

const mostValues = 4096 // the most that are read at once

// Write adds l, written with a book, to w.
func Write(w *bits.Writer, book int, l []int) api.Errno {
	if w == nil {
		return api.ErrArg
	}
	cost, e := Cost(book, l)
	if e != api.OK {
		return e
	}
	if cost > api.MaxBits-w.Len() {
		return api.ErrFull
	}
	b, _ := numbered(book)
	b.write(w, l)
	return api.OK
}

// write adds values that fit the book, for which there is room.
func (b codebook) write(w *bits.Writer, l []int) {
	lengths := b.lengths()
	for group := range groups(l, b.dimension) {
		if b.hasWords() {
			prefix.Write(w, lengths, b.symbolOf(group))
		}
		for _, v := range group {
			b.tailOf(v).write(w)
		}
	}
}

func (t tail) write(w *bits.Writer) {
	if t.isBelow {
		w.Put(1, 1)
	} else if t.hasSign {
		w.Put(0, 1)
	}
	if t.escape > 0 {
		w.Gamma(t.escape)
	}
}

// Read reads n values that are written with a book.
func Read(r *bits.Reader, book, n int) ([]int, api.Errno) {
	if r == nil {
		return nil, api.ErrArg
	}
	b, e := numbered(book)
	if e != api.OK {
		return nil, e
	}
	if n < 0 || n > mostValues || n%b.dimension != 0 {
		return nil, api.ErrForm
	}
	at := r.At()
	l, e := b.read(r, n)
	if e != api.OK {
		r.Seek(at)
		return nil, e
	}
	return l, api.OK
}

// read reads n values. With an error it stops in the midst of the bits.
func (b codebook) read(r *bits.Reader, n int) ([]int, api.Errno) {
	l, lengths := make([]int, n), b.lengths()
	for group := range groups(l, b.dimension) {
		if b.hasWords() {
			symbol, e := prefix.Read(r, lengths)
			if e != api.OK {
				return nil, e
			}
			b.open(symbol, group)
		}
		for i, digit := range group {
			v, e := b.value(r, digit)
			if e != api.OK {
				return nil, e
			}
			group[i] = v
		}
	}
	return l, api.OK
}

// value reads the tail of a value that has that digit, and returns the value.
func (b codebook) value(r *bits.Reader, digit int) (int, api.Errno) {
	if digit == 0 {
		return 0, api.OK
	}
	sign, e := r.Get(1)
	if e != api.OK {
		return 0, e
	}
	far := digit
	if b.hasEscape && digit == b.most {
		escape, e := r.Gamma()
		if e != api.OK {
			return 0, e
		}
		far += escape - 1
	}
	switch {
	case far > api.MaxQuant:
		return 0, api.ErrRange
	case sign == 1:
		return -far, api.OK
	}
	return far, api.OK
}
