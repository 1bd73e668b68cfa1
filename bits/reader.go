package bits

import (
	"slices"

	"shawm/api"
)

// Reader has bits and a position. The zero Reader has no bits.
type Reader struct {
	bytes     []byte
	count, at int
}

// Open returns a reader of the first n bits of b.
func Open(b []byte, n int) (*Reader, api.Errno) {
	if n < 0 || n > 8*len(b) {
		return nil, api.ErrArg
	}
	if n > api.MaxBits {
		return nil, api.ErrFull
	}
	k := (n + 7) / 8
	return &Reader{bytes: slices.Clone(b[:k:k]), count: n}, api.OK
}

// Get reads a number in n bits.
func (r *Reader) Get(n int) (int, api.Errno) {
	if r == nil || n < 0 || n > 32 {
		return 0, api.ErrArg
	}
	if n > r.Left() {
		return 0, api.ErrShort
	}
	return r.number(n), api.OK
}

// Signed reads a number in two's complement, in n bits.
func (r *Reader) Signed(n int) (int, api.Errno) {
	if n < 1 {
		return 0, api.ErrArg
	}
	v, e := r.Get(n)
	if e != api.OK {
		return 0, e
	}
	if v >= 1<<(n-1) {
		v -= 1 << n
	}
	return v, api.OK
}

// Unary reads a unary number that is at most most.
func (r *Reader) Unary(most int) (int, api.Errno) {
	if r == nil || most < 0 || most > 1000 {
		return 0, api.ErrArg
	}
	n, e := r.zeros(most)
	if e != api.OK {
		return 0, e
	}
	r.at += n + 1
	return n, api.OK
}

// Gamma reads a number in its gamma code.
func (r *Reader) Gamma() (int, api.Errno) {
	if r == nil {
		return 0, api.ErrArg
	}
	k, e := r.zeros(20)
	if e != api.OK {
		return 0, e
	}
	if 2*k+1 > r.Left() {
		return 0, api.ErrShort
	}
	r.at += k
	return r.number(k + 1), api.OK
}

// Take reads n bits as bytes, the last one filled with zeros.
func (r *Reader) Take(n int) ([]byte, api.Errno) {
	if r == nil || n < 0 {
		return nil, api.ErrArg
	}
	if n > r.Left() {
		return nil, api.ErrShort
	}
	w := New()
	feed(between(r.bytes, r.at, r.at+n), w.add)
	r.at += n
	return w.bytes, api.OK
}

// Align goes on to the next multiple of 8, or to the end, and returns by how many bits.
func (r *Reader) Align() int {
	if r == nil {
		return 0
	}
	n := min((8-r.at%8)%8, r.Left())
	r.at += n
	return n
}

// At returns the position.
func (r *Reader) At() int {
	if r == nil {
		return 0
	}
	return r.at
}

// Left returns how many bits are left.
func (r *Reader) Left() int {
	if r == nil {
		return 0
	}
	return r.count - r.at
}

// Seek sets the position.
func (r *Reader) Seek(at int) api.Errno {
	if r == nil {
		return api.ErrArg
	}
	if at < 0 || at > r.count {
		return api.ErrRange
	}
	r.at = at
	return api.OK
}

// number reads n bits, which have to be there.
func (r *Reader) number(n int) int {
	v := 0
	for bit := range between(r.bytes, r.at, r.at+n) {
		v = 2*v + bit
	}
	r.at += n
	return v
}

// zeros counts the zeros ahead of the next one, without going on.
func (r *Reader) zeros(most int) (int, api.Errno) {
	n := 0
	for bit := range between(r.bytes, r.at, r.count) {
		if bit == 1 {
			return n, api.OK
		}
		if n == most {
			return 0, api.ErrForm
		}
		n++
	}
	return 0, api.ErrShort
}
