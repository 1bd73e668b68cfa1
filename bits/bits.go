// Package bits writes and reads bits, and calculates check sums (layer 1).
package bits

import "iter"

// between gives the bits of b at the positions from, .. , to - 1, each byte from its highest bit on.
func between(b []byte, from, to int) iter.Seq[int] {
	return func(yield func(int) bool) {
		for at := from; at < to; at++ {
			if !yield(int(b[at/8] >> (7 - at%8) & 1)) {
				return
			}
		}
	}
}

// lowestFirst gives all bits of b, each byte from its lowest bit on.
func lowestFirst(b []byte) iter.Seq[int] {
	return func(yield func(int) bool) {
		for _, x := range b {
			for i := range 8 {
				if !yield(int(x >> i & 1)) {
					return
				}
			}
		}
	}
}

// feed hands all items to take, one by one.
func feed[T any](items iter.Seq[T], take func(T)) {
	for x := range items {
		take(x)
	}
}
