package prefix

import (
	"shawm/api"
	"shawm/bits"
)

// Write adds the word of a symbol to w.
func Write(w *bits.Writer, lengths []int, symbol int) api.Errno {
	if w == nil {
		return api.ErrArg
	}
	if e := Check(lengths); e != api.OK {
		return e
	}
	for s, x := range wordsOf(lengths) {
		if s == symbol {
			return w.Put(x.number, x.length)
		}
	}
	return api.ErrNone
}

// Read reads a word, and returns its symbol.
func Read(r *bits.Reader, lengths []int) (int, api.Errno) {
	if r == nil {
		return 0, api.ErrArg
	}
	if e := Check(lengths); e != api.OK {
		return 0, e
	}
	at := r.At()
	symbol, e := next(r, usedBy(lengths), search(lengths))
	if e != api.OK {
		r.Seek(at)
	}
	return symbol, e
}

// Encode returns the words of all symbols as bytes, and how many bits they have.
func Encode(lengths, symbols []int) ([]byte, int, api.Errno) {
	if e := Check(lengths); e != api.OK {
		return nil, 0, e
	}
	words := make([]word, len(lengths))
	for symbol, x := range wordsOf(lengths) {
		words[symbol] = x
	}
	for _, symbol := range symbols {
		if symbol < 0 || symbol >= len(words) || words[symbol] == (word{}) {
			return nil, 0, api.ErrNone
		}
	}
	w := bits.New()
	for _, symbol := range symbols {
		if e := w.Put(words[symbol].number, words[symbol].length); e != api.OK {
			return nil, 0, e
		}
	}
	return w.Bytes(), w.Len(), api.OK
}

// Decode returns the symbols of the first count words in n bits of b.
func Decode(lengths []int, b []byte, n, count int) ([]int, api.Errno) {
	if e := Check(lengths); e != api.OK {
		return nil, e
	}
	if count < 0 {
		return nil, api.ErrArg
	}
	r, e := bits.Open(b, n)
	if e != api.OK {
		return nil, e
	}
	used, find := usedBy(lengths), table(lengths)
	var symbols []int
	for range count {
		symbol, e := next(r, used, find)
		if e != api.OK {
			return nil, e
		}
		symbols = append(symbols, symbol)
	}
	return symbols, api.OK
}

// finder returns the symbol of a word, and whether there is one.
type finder func(w word) (int, bool)

// table returns a finder for many words.
func table(lengths []int) finder {
	symbols := make(map[word]int, len(lengths))
	for symbol, x := range wordsOf(lengths) {
		symbols[x] = symbol
	}
	return func(w word) (int, bool) {
		symbol, ok := symbols[w]
		return symbol, ok
	}
}

// search returns a finder for few words, which are found sooner than a map of all is made.
func search(lengths []int) finder {
	firsts := firstNumbers(lengths)
	return func(w word) (int, bool) {
		ahead := w.number - firsts[w.length]
		for symbol, length := range lengths {
			if length != w.length {
				continue
			}
			if ahead == 0 {
				return symbol, true
			}
			ahead--
		}
		return 0, false
	}
}

// next reads a word of a code whose words take that much of the whole, and returns its symbol. With an error it stops in the midst of the bits.
func next(r *bits.Reader, used int, find finder) (int, api.Errno) {
	var read word
	for {
		bit, e := r.Get(1)
		if e != api.OK {
			return 0, e
		}
		read = read.then(bit)
		if symbol, ok := find(read); ok {
			return symbol, api.OK
		}
		if read.start() >= used {
			return 0, api.ErrForm
		}
	}
}
