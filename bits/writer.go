package bits

import (
	"slices"

	"shawm/api"
)

// Writer has the bits that were written. The zero Writer has none, and can be used.
type Writer struct {
	bytes []byte
	count int
}

// New returns a writer without bits.
func New() *Writer { return &Writer{} }

// Put adds v in n bits.
func (w *Writer) Put(v, n int) api.Errno {
	if w == nil || n < 0 || n > 32 || v < 0 || v >= 1<<n {
		return api.ErrArg
	}
	return w.write(api.Field{Value: v, Width: n})
}

// Signed adds v in two's complement, in n bits.
func (w *Writer) Signed(v, n int) api.Errno {
	if w == nil || n < 1 || n > 32 || v < -1<<(n-1) || v >= 1<<(n-1) {
		return api.ErrArg
	}
	return w.write(api.Field{Value: v, Width: n})
}

// Unary adds n zeros and a one.
func (w *Writer) Unary(n int) api.Errno {
	if w == nil || n < 0 || n > 1000 {
		return api.ErrArg
	}
	return w.write(api.Field{Value: 0, Width: n}, api.Field{Value: 1, Width: 1})
}

// Gamma adds the gamma code of v.
func (w *Writer) Gamma(v int) api.Errno {
	if w == nil || v < 1 || v >= 1<<21 {
		return api.ErrArg
	}
	k := 0
	for v>>(k+1) > 0 {
		k++
	}
	return w.write(api.Field{Value: 0, Width: k}, api.Field{Value: v, Width: k + 1})
}

// Align adds as many of that bit as make whole bytes.
func (w *Writer) Align(bit int) api.Errno {
	if w == nil || bit < 0 || bit > 1 {
		return api.ErrArg
	}
	// -1 is ones alone in two's complement.
	return w.write(api.Field{Value: -bit, Width: (8 - w.count%8) % 8})
}

// Append adds the first n bits of b.
func (w *Writer) Append(b []byte, n int) api.Errno {
	if w == nil || n < 0 || n > 8*len(b) {
		return api.ErrArg
	}
	if n > w.room() {
		return api.ErrFull
	}
	feed(between(b, 0, n), w.add)
	return api.OK
}

// Len returns how many bits there are.
func (w *Writer) Len() int {
	if w == nil {
		return 0
	}
	return w.count
}

// Bytes returns the bits as bytes, the last one filled with zeros.
func (w *Writer) Bytes() []byte {
	if w == nil {
		return nil
	}
	return slices.Clone(w.bytes)
}

func (w *Writer) room() int { return api.MaxBits - w.count }

// write adds all of the fields, or none of them if there is no room for all.
func (w *Writer) write(fields ...api.Field) api.Errno {
	n := 0
	for _, f := range fields {
		n += f.Width
	}
	if n > w.room() {
		return api.ErrFull
	}
	feed(slices.Values(fields), w.number)
	return api.OK
}

// number adds the lowest bits of a field's value, as many as its width; a value below 0 has them in two's complement.
func (w *Writer) number(f api.Field) {
	for i := f.Width - 1; i >= 0; i-- {
		w.add(f.Value >> i & 1)
	}
}

func (w *Writer) add(bit int) {
	if w.count%8 == 0 {
		w.bytes = append(w.bytes, 0)
	}
	w.bytes[w.count/8] |= byte(bit << (7 - w.count%8))
	w.count++
}
