package pcm_test

import (
	"bytes"
	"encoding/binary"
	"slices"
	"testing"

	"shawm/api"
	"shawm/pcm"
)

// chunk is a chunk of a file, with one byte more if its size is odd.
func chunk(name string, data []byte) []byte {
	b := binary.LittleEndian.AppendUint32([]byte(name), uint32(len(data)))
	b = append(b, data...)
	if len(data)%2 == 1 {
		b = append(b, 'x')
	}
	return b
}

// riff is a file of these chunks.
func riff(chunks ...[]byte) []byte {
	body := append([]byte("WAVE"), slices.Concat(chunks...)...)
	b := binary.LittleEndian.AppendUint32([]byte("RIFF"), uint32(len(body)))
	return append(b, body...)
}

// format is the data of a chunk with the name fmt and a blank.
func format(tag, channels, rate, bytesEach, align, width int) []byte {
	b := binary.LittleEndian.AppendUint16(nil, uint16(tag))
	b = binary.LittleEndian.AppendUint16(b, uint16(channels))
	b = binary.LittleEndian.AppendUint32(b, uint32(rate))
	b = binary.LittleEndian.AppendUint32(b, uint32(bytesEach))
	b = binary.LittleEndian.AppendUint16(b, uint16(align))
	return binary.LittleEndian.AppendUint16(b, uint16(width))
}

func fmtChunk(channels, rate int) []byte {
	return chunk("fmt ", format(1, channels, rate, 2*channels*rate, 2*channels, 16))
}

func dataChunk(samples ...int) []byte {
	var b []byte
	for _, v := range samples {
		b = binary.LittleEndian.AppendUint16(b, uint16(v))
	}
	return chunk("data", b)
}

func TestWave(t *testing.T) {
	want := []byte{'R', 'I', 'F', 'F', 40, 0, 0, 0, 'W', 'A', 'V', 'E', 'f', 'm', 't', ' ', 16, 0, 0, 0, 1, 0, 1, 0, 0x40, 0x1F, 0, 0, 0x80, 0x3E, 0, 0, 2, 0, 16, 0, 'd', 'a', 't', 'a', 4, 0, 0, 0, 1, 0, 254, 255}
	if b, e := pcm.Wave(sound(8000, []int{1, -2})); e != api.OK || !bytes.Equal(b, want) {
		t.Errorf("Wave = %v, %d", b, e)
	}
	want = riff(fmtChunk(2, 44100), dataChunk(1, api.MinSample, 2, api.MaxSample))
	if b, e := pcm.Wave(sound(44100, []int{1, 2}, []int{api.MinSample, api.MaxSample})); e != api.OK || !bytes.Equal(b, want) {
		t.Errorf("Wave = %v, %d", b, e)
	}
	for channels := 1; channels <= 2; channels++ {
		for _, rate := range rates() {
			want := riff(fmtChunk(channels, rate), dataChunk())
			if b, e := pcm.Wave(sound(rate, make([][]int, channels)...)); e != api.OK || !bytes.Equal(b, want) {
				t.Errorf("Wave of nothing = %v, %d", b, e)
			}
		}
	}
}

// TestReadOfWave is the second half of the promise P2.6.
func TestReadOfWave(t *testing.T) {
	for i, s := range sounds() {
		b, e := pcm.Wave(s)
		if e != api.OK {
			t.Fatalf("Wave of sound %d: %d", i, e)
		}
		kept := slices.Clone(b)
		again, e := pcm.Read(b)
		if e != api.OK || !equal(again, s) || !pcm.Same(again, s) {
			t.Errorf("Read of Wave of sound %d: %d", i, e)
		}
		if !bytes.Equal(b, kept) {
			t.Errorf("Read changed its argument")
		}
		back, e := pcm.Wave(again)
		if e != api.OK || !bytes.Equal(back, kept) {
			t.Errorf("Wave of what was read from sound %d: %d", i, e)
		}
		clear(b)
		change(s)
		if third, e := pcm.Read(kept); e != api.OK || !equal(again, third) {
			t.Errorf("what was read from sound %d hangs on the bytes", i)
		}
	}
}

func TestReadOtherChunks(t *testing.T) {
	odd, even, none := chunk("LIST", []byte("odd")), chunk("note", []byte("even")), chunk("fact", nil)
	near := slices.Concat(chunk("FMT ", []byte{1}), chunk("fmt\x00", nil), chunk("Data", []byte{1, 2, 3}), chunk("RIFF", nil))
	f, d := fmtChunk(2, 8000), dataChunk(1, 2, 3, -4)
	want := sound(8000, []int{1, 3}, []int{2, -4})
	for i, b := range [][]byte{riff(f, d), riff(odd, f, d), riff(f, odd, d), riff(f, d, odd), riff(f, d, even, none), riff(none, even, odd, f, none, odd, odd, d, odd, even), riff(near, f, near, d, near), riff(odd, odd, f, d, none)} {
		if s, e := pcm.Read(b); e != api.OK || !equal(s, want) {
			t.Errorf("file %d: %v, %d", i, s, e)
		}
	}
	if s, e := pcm.Read(riff(f, dataChunk())); e != api.OK || s.Rate != 8000 || len(s.Channels) != 2 || len(s.Channels[0])+len(s.Channels[1]) != 0 {
		t.Errorf("no samples: %v, %d", s, e)
	}
	for channels := 1; channels <= 2; channels++ {
		l := noise(5, 1, channels*api.MaxSamples).Channels[0]
		s, e := pcm.Read(riff(fmtChunk(channels, 48000), dataChunk(l...), odd))
		again, f := pcm.Interleave(s)
		if e != api.OK || f != api.OK || !slices.Equal(again, l) {
			t.Errorf("MaxSamples in %d channels: %d, %d", channels, e, f)
		}
	}
}

// fails checks that Read returns that error, and no sound.
func fails(t *testing.T, name string, b []byte, want api.Errno) {
	t.Helper()
	if s, e := pcm.Read(b); e != want || !isZero(s) {
		t.Errorf("%s: %d, want %d", name, e, want)
	}
}

// with is b with another byte at the position i.
func with(b []byte, i int, v byte) []byte {
	c := slices.Clone(b)
	c[i] = v
	return c
}

func TestReadHead(t *testing.T) {
	good := riff(fmtChunk(1, 8000), dataChunk(1, 2))
	fails(t, "nil", nil, api.ErrShort)
	for n := range 12 {
		fails(t, "a part of the head", good[:n], api.ErrShort)
		fails(t, "a part of another head", with(good, 0, 'X')[:n], api.ErrShort)
	}
	for i := range 12 {
		fails(t, "another head", with(good, i, good[i]+1), api.ErrForm)
		fails(t, "another head, and no more", with(riff(), i, riff()[i]+1), api.ErrForm)
	}
	for n := 12; n < len(good); n++ {
		fails(t, "a part of a file", good[:n], api.ErrForm)
	}
	fails(t, "one byte more", append(slices.Clone(good), 0), api.ErrForm)
	fails(t, "no chunks", riff(), api.ErrForm)
}

func TestReadShort(t *testing.T) {
	f, d := fmtChunk(1, 8000), dataChunk(1, 2)
	all := slices.Concat(f, chunk("abc ", []byte("odd")), d)
	ends := []int{len(f), len(f) + 12}
	for n := 1; n < len(all); n++ {
		if !slices.Contains(ends, n) {
			fails(t, "a part of the chunks", riff(all[:n]), api.ErrShort)
		}
	}
	for n := 1; n < 8; n++ {
		fails(t, "less than 8 bytes at the end", riff(f, d, make([]byte, n)), api.ErrShort)
	}
	odd := chunk("abc ", []byte{1, 2, 3})
	fails(t, "an odd chunk at the end without its last byte", riff(f, d, odd[:11]), api.ErrShort)
	fails(t, "a chunk of one byte without another one", riff(f, d, chunk("abc ", []byte{1})[:9]), api.ErrShort)
	fails(t, "a size of 2^32 - 1", riff(f, d, []byte{'a', 'b', 'c', 'd', 255, 255, 255, 255, 0, 0}), api.ErrShort)
	fails(t, "a size of 2^31", riff(f, d, []byte{'a', 'b', 'c', 'd', 0, 0, 0, 128, 0, 0}), api.ErrShort)
	fails(t, "a cut chunk with the name data, without fmt", riff(d[:9]), api.ErrShort)
	fails(t, "a cut chunk with the name fmt, behind one", riff(f, f[:20]), api.ErrShort)
}

func TestReadFormat(t *testing.T) {
	d := dataChunk(1, 2, 3, 4)
	for channels := 1; channels <= 2; channels++ {
		for _, rate := range rates() {
			if s, e := pcm.Read(riff(fmtChunk(channels, rate), d)); e != api.OK || s.Rate != rate || len(s.Channels) != channels {
				t.Errorf("%d channels at %d: %d", channels, rate, e)
			}
		}
	}
	wrong := map[string][]byte{
		"another tag":            format(2, 1, 8000, 16000, 2, 16),
		"the tag 257":            format(257, 1, 8000, 16000, 2, 16),
		"no channel":             format(1, 0, 8000, 0, 0, 16),
		"three channels":         format(1, 3, 8000, 48000, 6, 16),
		"258 channels":           format(1, 258, 8000, 516*8000, 516, 16),
		"another rate":           format(1, 1, 8001, 16002, 2, 16),
		"no rate":                format(1, 1, 0, 0, 2, 16),
		"another number a time":  format(1, 1, 8000, 16001, 2, 16),
		"that of two channels":   format(1, 1, 8000, 32000, 2, 16),
		"another number of each": format(1, 1, 8000, 16000, 4, 16),
		"8 bits":                 format(1, 1, 8000, 8000, 1, 8),
		"24 bits":                format(1, 1, 8000, 16000, 2, 24),
		"18 bytes":               append(format(1, 1, 8000, 16000, 2, 16), 0, 0),
		"17 bytes":               append(format(1, 1, 8000, 16000, 2, 16), 0),
		"15 bytes":               format(1, 1, 8000, 16000, 2, 16)[:15],
		"14 bytes":               format(1, 1, 8000, 16000, 2, 16)[:14],
		"3 bytes":                format(1, 1, 8000, 16000, 2, 16)[:3],
		"no bytes":               nil,
	}
	for name, b := range wrong {
		fails(t, name, riff(chunk("fmt ", b), d), api.ErrForm)
		fails(t, name+", and what is cut off", riff(chunk("fmt ", b), d[:9]), api.ErrForm)
		fails(t, name+" behind another one", riff(fmtChunk(1, 8000), chunk("fmt ", b), d), api.ErrForm)
	}
}

func TestReadOrder(t *testing.T) {
	f, d := fmtChunk(1, 8000), dataChunk(1, 2)
	cut := []byte{1, 2, 3}
	long := dataChunk(flat(0, api.MaxSamples+1)...)
	cases := []struct {
		name string
		b    []byte
		want api.Errno
	}{
		{"a second fmt", riff(f, f, d), api.ErrForm},
		{"a second fmt at the end", riff(f, d, f), api.ErrForm},
		{"a second fmt, and what is cut off", riff(f, f, cut), api.ErrForm},
		{"what is cut off, behind fmt", riff(f, cut), api.ErrShort},
		{"a second data", riff(f, d, d), api.ErrForm},
		{"a second data that is empty", riff(f, d, dataChunk()), api.ErrForm},
		{"a second data behind one that is empty", riff(f, dataChunk(), d), api.ErrForm},
		{"a second data that is too long", riff(f, d, long), api.ErrForm},
		{"data without fmt", riff(d), api.ErrForm},
		{"data ahead of fmt", riff(d, f), api.ErrForm},
		{"data ahead of fmt, and what is cut off", riff(d, cut), api.ErrForm},
		{"data that is too long, ahead of fmt", riff(long, f), api.ErrForm},
		{"an odd size", riff(f, chunk("data", []byte{1, 2, 3})), api.ErrForm},
		{"half of a position", riff(fmtChunk(2, 8000), dataChunk(1, 2, 3)), api.ErrForm},
		{"an odd size in two channels", riff(fmtChunk(2, 8000), chunk("data", []byte{1})), api.ErrForm},
		{"half of a position, and too long", riff(fmtChunk(2, 8000), dataChunk(flat(0, 2*api.MaxSamples+3)...)), api.ErrForm},
		{"too long", riff(f, long), api.ErrFull},
		{"too long in two channels", riff(fmtChunk(2, 8000), dataChunk(flat(0, 2*api.MaxSamples+2)...)), api.ErrFull},
		{"too long, and what is cut off", riff(f, long, cut), api.ErrFull},
		{"too long, and a second fmt", riff(f, long, f), api.ErrFull},
		{"no data", riff(f), api.ErrForm},
		{"no data, and other chunks", riff(f, chunk("LIST", []byte("x"))), api.ErrForm},
		{"other chunks alone", riff(chunk("LIST", []byte("x"))), api.ErrForm},
	}
	for _, c := range cases {
		fails(t, c.name, c.b, c.want)
	}
}

// TestReadAnything changes each byte of a file, and takes each part of it.
func TestReadAnything(t *testing.T) {
	b := riff(chunk("LIST", []byte("abc")), fmtChunk(2, 8000), dataChunk(1, 2, 3, 4), chunk("LIST", nil))
	for i := range b {
		for v := range 256 {
			c := with(b, i, byte(v))
			s, e := pcm.Read(c)
			if again, f := pcm.Read(c); f != e || !equal(again, s) {
				t.Fatalf("byte %d, %d: other values", i, v)
			}
			if e == api.OK && pcm.Check(s) != api.OK || e != api.OK && !isZero(s) {
				t.Errorf("byte %d, %d: %v, %d", i, v, s, e)
			}
		}
	}
}
