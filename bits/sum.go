package bits

// Crc16 returns the sum of 16 bits of b.
func Crc16(b []byte) int {
	r := uint16(0xFFFF)
	step := func(bit int) {
		differs := int(r>>15) != bit
		r <<= 1
		if differs {
			r ^= 0x8005
		}
	}
	feed(between(b, 0, 8*len(b)), step)
	return int(r)
}

// Crc32 returns the sum of 32 bits of b.
func Crc32(b []byte) int {
	r := uint32(0xFFFFFFFF)
	step := func(bit int) {
		differs := int(r&1) != bit
		r >>= 1
		if differs {
			r ^= 0xEDB88320
		}
	}
	feed(lowestFirst(b), step)
	return int(r ^ 0xFFFFFFFF)
}
