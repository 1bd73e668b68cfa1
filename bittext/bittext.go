// Package bittext has bits as texts of the digits 0 and 1. The tests of the layers compare with such texts what is written, and read them.
package bittext

import (
	"strconv"
	"strings"

	"shawm/api"
	"shawm/bits"
)

// Number is v in n bits, in two's complement if v is below 0.
func Number(v, n int) string {
	var s strings.Builder
	for i := n - 1; i >= 0; i-- {
		s.WriteByte(byte('0' + v>>i&1))
	}
	return s.String()
}

// Gamma is the gamma code of v, which is above 0.
func Gamma(v int) string {
	s := strconv.FormatInt(int64(v), 2)
	return strings.Repeat("0", len(s)-1) + s
}

// Of are the bits of a writer.
func Of(w *bits.Writer) string {
	var s strings.Builder
	for _, x := range w.Bytes() {
		s.WriteString(Number(int(x), 8))
	}
	return s.String()[:w.Len()]
}

// Open returns a reader of the bits of a text, behind which more bits of the last byte are ones. Of a text that is too long there is none.
func Open(s string) *bits.Reader {
	b := make([]byte, (len(s)+7)/8)
	for i := range 8 * len(b) {
		if i >= len(s) || s[i] == '1' {
			b[i/8] |= 128 >> (i % 8)
		}
	}
	r, _ := bits.Open(b, len(s))
	return r
}

// Filled returns a writer that has room for so many bits more, and zeros.
func Filled(room int) *bits.Writer {
	w := bits.New()
	w.Append(make([]byte, api.MaxBits/8), api.MaxBits-room)
	return w
}
