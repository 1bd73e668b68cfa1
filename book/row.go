package book

import (
	"math/bits"

	"shawm/api"
)

const (
	books         = 8
	mostDimension = 4
)

// The lengths of the symbols of each book, as letters: b is 1, c is 2, and so on; a is the symbol without bits.
// They are those of the chapter's counts by layer 4, and stand here as they are asked for with every list, and are made in more time than a list takes.
const (
	lengths0 = "a"
	lengths1 = "cddfdffhdffgfggh"
	lengths2 = "defefhfhiefhfhihijfhihijijkefgfgigijfgigijijkgijijkjkmfgigijijkgijijkjklijkjklklm"
	lengths3 = "cdefgdefggefgghfgghjfghij"
	lengths4 = "deeffghheeffghhieffghhiiffghhiijfghhiijkghhiijkkhhiijkklhiijjkkl"
	lengths5 = "fffgggghhhiiiffgggghhhiiijfgggghhhiiijjgggghhhiiijjjggghhhiiijjjjgghhhiiijjjjkghhhiiijjjjkkhhhiiijjjjkkk" +
		"hhiiijjjjkkklhiiiijjjkkklliiiijjjkkkllliiijjjkkklllmiijjjkkkllllm"
	lengths6 = "eeffgghhhiijjjkkeffgghhhiijjjkklffgghhhiijjjkkllfgghhhiijjjkklllgghhhiijjjkklllmgghhiijjjkklllmmghhiijjjkklllmmn" +
		"hhiijjjkklllmmnnhiijjjkklllmmnnoiijjjkklllmmnnooijjjkklllmmnnooojjjkklllmmnnooopjjkklllmmnnoooppjkklllmmnnnooppq" +
		"kklllmmnnnooppqqklllmmnnnooppqqq"
	lengths7 = "dddeeeeefffffgggggghhhhhiiiijjjj"
)

// codebook is a row of the chapter's table; letters are the lengths of its symbols.
type codebook struct {
	dimension, most int
	hasEscape       bool
	letters         string
}

func all() [books]codebook {
	return [books]codebook{
		{1, 0, false, lengths0},
		{4, 1, false, lengths1},
		{4, 2, false, lengths2},
		{2, 4, false, lengths3},
		{2, 7, false, lengths4},
		{2, 12, false, lengths5},
		{2, 15, true, lengths6},
		{1, 31, true, lengths7},
	}
}

func numbered(number int) (codebook, api.Errno) {
	if number < 0 || number >= books {
		return codebook{}, api.ErrNone
	}
	return all()[number], api.OK
}

// hasWords tells whether the symbols of the book have bits.
func (b codebook) hasWords() bool { return b.most > 0 }

// lengths are those of all symbols, or none, if they have no bits.
func (b codebook) lengths() []int {
	if !b.hasWords() {
		return nil
	}
	lengths := make([]int, len(b.letters))
	for symbol := range lengths {
		lengths[symbol] = b.length(symbol)
	}
	return lengths
}

func (b codebook) length(symbol int) int { return int(b.letters[symbol] - 'a') }

// fits tells whether values fit the book.
func (b codebook) fits(l []int) bool {
	if len(l)%b.dimension != 0 {
		return false
	}
	for _, v := range l {
		if size(v) > b.most && !b.hasEscape {
			return false
		}
	}
	return true
}

// cost is how many bits values that fit have.
func (b codebook) cost(l []int) int {
	n := 0
	for group := range groups(l, b.dimension) {
		n += b.length(b.symbolOf(group))
		for _, v := range group {
			n += b.tailOf(v).bits()
		}
	}
	return n
}

// bits is how many the tail has.
func (t tail) bits() int {
	n := 0
	if t.hasSign {
		n++
	}
	if t.escape > 0 {
		n += 2*bits.Len(uint(t.escape)) - 1
	}
	return n
}
