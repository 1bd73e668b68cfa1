package scale

import (
	"shawm/api"
	"shawm/bits"
	"shawm/prefix"
)

// Write adds the scales of the bands that are used to w.
func Write(w *bits.Writer, scales []int, used []bool) api.Errno {
	if w == nil {
		return api.ErrArg
	}
	cost, e := Cost(scales, used)
	if e != api.OK {
		return e
	}
	if cost > api.MaxBits-w.Len() {
		return api.ErrFull
	}
	code := Lengths()
	for before, v := range successive(scales, used) {
		if before == none {
			w.Put(v, firstBits)
		} else {
			prefix.Write(w, code, symbolOf(before, v))
		}
	}
	return api.OK
}

// Read reads the scales of bands, of which used tells those that are used.
func Read(r *bits.Reader, used []bool) ([]int, api.Errno) {
	if r == nil || len(used) > mostBands {
		return nil, api.ErrArg
	}
	at := r.At()
	scales, e := read(r, used)
	if e != api.OK {
		r.Seek(at)
		return nil, e
	}
	return scales, api.OK
}

// read reads scales. With an error it stops in the midst of the bits.
func read(r *bits.Reader, used []bool) ([]int, api.Errno) {
	scales, words := make([]int, len(used)), table()
	before := none
	for i, isUsed := range used {
		if !isUsed {
			continue
		}
		v, e := next(r, before, words)
		if e != api.OK {
			return nil, e
		}
		if !isScale(v) {
			return nil, api.ErrRange
		}
		scales[i], before = v, v
	}
	return scales, api.OK
}

// next reads the scale behind the one before it.
func next(r *bits.Reader, before int, words map[word]int) (int, api.Errno) {
	if before == none {
		return r.Get(firstBits)
	}
	var read word
	for {
		bit, e := r.Get(1)
		if e != api.OK {
			return 0, e
		}
		read = word{read.length + 1, 2*read.number + bit}
		if symbol, ok := words[read]; ok {
			return scaleOf(before, symbol), api.OK
		}
	}
}

// word is a number that is written in length bits.
type word struct{ length, number int }

// table has the symbols of all words. All bits begin with one of them, as the lengths are complete.
func table() map[word]int {
	symbols := make(map[word]int, steps)
	code := Lengths()
	numbers, _ := prefix.Codes(code)
	for symbol, number := range numbers {
		symbols[word{code[symbol], number}] = symbol
	}
	return symbols
}
