package bits_test

import (
	"hash/crc32"
	"math/rand"
	"testing"

	"shawm/bits"
)

func TestSumExamples(t *testing.T) {
	for _, b := range [][]byte{nil, {}} {
		if bits.Crc16(b) != 65535 || bits.Crc32(b) != 0 {
			t.Errorf("sums of nothing: %d, %d", bits.Crc16(b), bits.Crc32(b))
		}
	}
	b := []byte("123456789")
	if bits.Crc16(b) != 44775 || bits.Crc32(b) != 3421780262 {
		t.Errorf("sums: %d, %d", bits.Crc16(b), bits.Crc32(b))
	}
}

// sumOf16 follows the chapter word for word.
func sumOf16(b []byte) int {
	r := 65535
	for _, x := range b {
		for i := 7; i >= 0; i-- {
			t := r/32768 ^ int(x)>>i&1
			r = 2 * r % 65536
			if t == 1 {
				r ^= 32773
			}
		}
	}
	return r
}

func TestSumsOfManyBytes(t *testing.T) {
	random := rand.New(rand.NewSource(1))
	for n := range 200 {
		b := make([]byte, n)
		random.Read(b)
		sum := bits.Crc16(b)
		if sum != sumOf16(b) || bits.Crc32(b) != int(crc32.ChecksumIEEE(b)) {
			t.Fatalf("sums of %v: %d, %d", b, sum, bits.Crc32(b))
		}
		if own := bits.Crc16(append(b[:n:n], byte(sum>>8), byte(sum))); own != 0 {
			t.Fatalf("the sum of %v and its sum is %d", b, own)
		}
	}
}

// TestChangedBits changes bits within 16 and within 32 positions.
func TestChangedBits(t *testing.T) {
	random := rand.New(rand.NewSource(2))
	b := make([]byte, 12)
	random.Read(b)
	for range 20000 {
		if at := random.Intn(8*len(b) - 15); bits.Crc16(changed(b, at, uint64(random.Intn(1<<16-1)+1), 7)) == bits.Crc16(b) {
			t.Fatalf("the sum of 16 bits stays, with changes from %d on", at)
		}
		if at := random.Intn(8*len(b) - 31); bits.Crc32(changed(b, at, uint64(random.Intn(1<<32-1)+1), 0)) == bits.Crc32(b) {
			t.Fatalf("the sum of 32 bits stays, with changes from %d on", at)
		}
	}
}

// changed turns the bits of b over that the pattern has, from the position at on; first is the bit of a byte that comes first, 7 or 0.
func changed(b []byte, at int, pattern uint64, first int) []byte {
	out := append([]byte(nil), b...)
	for i := range 32 {
		if pattern>>i&1 == 1 {
			out[(at+i)/8] ^= 1 << (first ^ (at+i)%8)
		}
	}
	return out
}

func TestSumsChangeNothing(t *testing.T) {
	b := []byte("abc")
	for range 2 {
		if bits.Crc16(b) != sumOf16([]byte("abc")) || bits.Crc32(b) != int(crc32.ChecksumIEEE([]byte("abc"))) || string(b) != "abc" {
			t.Errorf("sums of %q", b)
		}
	}
}
