package pcm

import (
	"bytes"
	"iter"

	"shawm/api"
)

const (
	riffName   = "RIFF"
	waveName   = "WAVE"
	formatName = "fmt "
	dataName   = "data"
	headLen    = 12 // of a file: a name, a length, a name
	chunkHead  = 8  // of a chunk: a name, a size
)

// Wave returns the wave file of s.
func Wave(s api.Sound) ([]byte, api.Errno) {
	l, e := Interleave(s)
	if e != api.OK {
		return nil, e
	}
	format := formatOf(len(s.Channels), s.Rate)
	whole := len(waveName) + 2*chunkHead + len(format) + 2*len(l)
	b := appendNumber([]byte(riffName), whole, 4)
	b = append(b, waveName...)
	b = appendNumber(append(b, formatName...), len(format), 4)
	b = append(b, format...)
	b = appendNumber(append(b, dataName...), 2*len(l), 4)
	for _, v := range l {
		b = appendNumber(b, v, 2)
	}
	return b, api.OK
}

// formatOf is what a wave file says of its samples.
func formatOf(channels, rate int) []byte {
	b := appendNumber(nil, 1, 2)
	b = appendNumber(b, channels, 2)
	b = appendNumber(b, rate, 4)
	b = appendNumber(b, 2*channels*rate, 4)
	b = appendNumber(b, 2*channels, 2)
	return appendNumber(b, 16, 2)
}

// appendNumber adds v to b in n bytes, its lowest byte first.
func appendNumber(b []byte, v, n int) []byte {
	for range n {
		b = append(b, byte(v))
		v >>= 8
	}
	return b
}

// numberIn is the number of the type T in b, which has its lowest byte first.
func numberIn[T int16 | uint16 | uint32](b []byte) int {
	var v T
	for i, x := range b {
		v |= T(x) << (8 * i)
	}
	return int(v)
}

// Read returns the sound in a file.
func Read(b []byte) (api.Sound, api.Errno) {
	if len(b) < headLen {
		return api.Sound{}, api.ErrShort
	}
	if string(b[:4]) != riffName || numberIn[uint32](b[4:8]) != len(b)-8 || string(b[8:headLen]) != waveName {
		return api.Sound{}, api.ErrForm
	}
	var f file
	for c, e := range chunks(b[headLen:]) {
		if e == api.OK {
			e = f.take(c)
		}
		if e != api.OK {
			return api.Sound{}, e
		}
	}
	if !f.hasData {
		return api.Sound{}, api.ErrForm
	}
	return f.sound, api.OK
}

type chunk struct {
	name string
	data []byte
}

// chunks gives the chunks of b; if the last one is cut off, ErrShort takes its place.
func chunks(b []byte) iter.Seq2[chunk, api.Errno] {
	return func(yield func(chunk, api.Errno) bool) {
		rest := b
		for len(rest) > 0 {
			c, n, e := firstChunk(rest)
			if !yield(c, e) || e != api.OK {
				return
			}
			rest = rest[n:]
		}
	}
}

// firstChunk returns the first chunk of b, and how many bytes of b it takes.
func firstChunk(b []byte) (chunk, int, api.Errno) {
	if len(b) < chunkHead {
		return chunk{}, 0, api.ErrShort
	}
	size := numberIn[uint32](b[4:chunkHead])
	end := chunkHead + size
	if len(b) < end+size%2 {
		return chunk{}, 0, api.ErrShort
	}
	return chunk{string(b[:4]), b[chunkHead:end:end]}, end + size%2, api.OK
}

// file is what is known of a file so far; channels is 0 as long as there was no format.
type file struct {
	channels, rate int
	hasData        bool
	sound          api.Sound
}

func (f *file) take(c chunk) api.Errno {
	switch c.name {
	case formatName:
		return f.takeFormat(c.data)
	case dataName:
		return f.takeData(c.data)
	}
	return api.OK
}

func (f *file) takeFormat(b []byte) api.Errno {
	if f.channels != 0 || len(b) != 16 {
		return api.ErrForm
	}
	channels, rate := numberIn[uint16](b[2:4]), numberIn[uint32](b[4:8])
	if !isCount(channels) || !isRate(rate) || !bytes.Equal(b, formatOf(channels, rate)) {
		return api.ErrForm
	}
	f.channels, f.rate = channels, rate
	return api.OK
}

func (f *file) takeData(b []byte) api.Errno {
	if f.hasData || f.channels == 0 || len(b)%(2*f.channels) != 0 {
		return api.ErrForm
	}
	l := make([]int, len(b)/2)
	for i := range l {
		l[i] = numberIn[int16](b[2*i : 2*i+2 : 2*i+2])
	}
	s, e := Split(l, f.channels, f.rate)
	if e != api.OK {
		return e
	}
	f.sound, f.hasData = s, true
	return api.OK
}
