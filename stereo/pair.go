package stereo

import (
	"shawm/fixed"
	"shawm/lift"
)

// pair is a left and a right coefficient, or a middle and a difference.
type pair struct{ first, second int }

// mid has no error to tell, as coefficients are far within what has a middle.
func (p pair) mid() pair {
	m, s, _ := lift.Mid(p.first, p.second)
	return pair{m, s}
}

// sides has no error to tell, as what is parted is far within what has sides.
func (p pair) sides() pair {
	l, r, _ := lift.Sides(p.first, p.second)
	return pair{l, r}
}

func (p pair) itself() pair { return p }

// gainOf is by how much the cost falls if pairs become middles and differences.
func gainOf(pairs []pair) int { return cost(pairs, pair.itself) - cost(pairs, pair.mid) }

// cost is that of what turn makes of each element of a list.
func cost[T any](list []T, turn func(T) pair) int {
	total := 0
	for _, v := range list {
		p := turn(v)
		total += logOf(p.first) + logOf(p.second)
	}
	return total
}

// logOf has no error to tell, as no difference of coefficients is near to the greatest number that has a logarithm.
func logOf(c int) int {
	log, _ := fixed.Log(max(c, -c) + 1)
	return log
}

// sums are, of the pairs of a band, those of the squares of the first ones, of the second ones, and of the products.
type sums struct{ first, second, product int }

func (s sums) plus(p pair) sums {
	return sums{s.first + p.first*p.first, s.second + p.second*p.second, s.product + p.first*p.second}
}

// likeness is how like the two are, whatever the sign. It needs a sum that is not 0.
func (s sums) likeness() int {
	size := max(s.product, -s.product)
	return 256 * size / max(s.first, s.second, size)
}

func crossOf(pairs []pair) int {
	s := added(pairs, sums{}, sums.plus)
	return signed(s.product, s.likeness)
}

// added is what plus makes of a start and all elements of a list.
func added[S, T any](list []T, start S, plus func(S, T) S) S {
	for _, v := range list {
		start = plus(start, v)
	}
	return start
}

// signed is a number with the sign of another one. The number is not asked for if there is no sign: where one of the channels is 0 all over a band the product is 0 too, and perhaps nothing to divide by is left.
func signed(sign int, number func() int) int {
	switch {
	case sign < 0:
		return -number()
	case sign > 0:
		return number()
	}
	return 0
}
