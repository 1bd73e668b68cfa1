package book

import "iter"

// groups gives the parts of a list that have n elements each. What is put into a part is in the list.
func groups(l []int, n int) iter.Seq[[]int] {
	return func(yield func([]int) bool) {
		for at := 0; at < len(l); at += n {
			if !yield(l[at : at+n : at+n]) {
				return
			}
		}
	}
}

func size(v int) int { return max(v, -v) }

// digit tells of each value its digit.
func (b codebook) digit() func(v int) int {
	return func(v int) int { return min(size(v), b.most) }
}

// symbol is the one that has these digits.
func (b codebook) symbol(digits ...int) int {
	s := 0
	for _, d := range digits {
		s = s*(b.most+1) + d
	}
	return s
}

// symbolOf is the one of a group of values.
func (b codebook) symbolOf(group []int) int {
	var digits [mostDimension]int
	digit := b.digit()
	for i, v := range group {
		digits[i] = digit(v)
	}
	return b.symbol(digits[:len(group)]...)
}

// open puts the digits of a symbol into a group.
func (b codebook) open(symbol int, group []int) {
	for i := len(group) - 1; i >= 0; i-- {
		group[i] = symbol % (b.most + 1)
		symbol /= b.most + 1
	}
}

// tail is what is written of a value behind its group's symbol: a sign, unless it is 0, and the number whose gamma code is its escape, or 0.
type tail struct {
	hasSign, isBelow bool
	escape           int
}

func (b codebook) tailOf(v int) tail {
	t := tail{hasSign: v != 0, isBelow: v < 0}
	if b.hasEscape && size(v) >= b.most {
		t.escape = size(v) - b.most + 1
	}
	return t
}
