package prefix

import "iter"

// word is a number that is written in length bits. The zero word has no bits.
type word struct{ length, number int }

// then is w with one bit more.
func (w word) then(bit int) word { return word{w.length + 1, 2*w.number + bit} }

// start is where the part of the whole starts that w takes. The words of a code take the whole from 0 on, one behind the other.
func (w word) start() int { return w.number << (maxLength - w.length) }

// wordsOf gives the symbols that have a word, and their words.
func wordsOf(lengths []int) iter.Seq2[int, word] {
	return func(yield func(int, word) bool) {
		numbers := firstNumbers(lengths)
		for symbol, length := range lengths {
			if length == 0 {
				continue
			}
			if !yield(symbol, word{length, numbers[length]}) {
				return
			}
			numbers[length]++
		}
	}
}

// firstNumbers are the numbers of the first words of each length.
func firstNumbers(lengths []int) [maxLength + 1]int {
	var counts, firsts [maxLength + 1]int
	for _, length := range lengths {
		counts[length]++
	}
	for length := 2; length <= maxLength; length++ {
		firsts[length] = 2 * (firsts[length-1] + counts[length-1])
	}
	return firsts
}
