package lift

import (
	"shawm/api"
	"shawm/fixed"
)

// pair is the two numbers that are turned.
type pair [2]int

// turn is by quarters, and then by at most an eighth: of that angle it has 16384 times the tangent of the half, and the sine.
type turn struct{ quarters, half, sine int }

// turnBy is the turn by n / d of a full turn.
func turnBy(n, d int) (turn, api.Errno) {
	if d < 1 || d > 2048 || d&(d-1) != 0 {
		return turn{}, api.ErrArg
	}
	if !areWithin(1<<40, n) {
		return turn{}, api.ErrRange
	}
	t := 8 * (n & (d - 1))
	q := (t + d - 1) / (2 * d)
	r := t - 2*q*d
	a, e := fixed.Half(r, 8*d)
	if e != api.OK {
		return turn{}, e
	}
	b, e := fixed.Sin(r, 8*d)
	if e != api.OK {
		return turn{}, e
	}
	return turn{q, a, b}, api.OK
}

func (t turn) forth(p pair) pair {
	for range t.quarters {
		p = pair{-p[1], p[0]}
	}
	return t.lifted(p, 1)
}

func (t turn) back(p pair) pair {
	p = t.lifted(p, -1)
	for range t.quarters {
		p = pair{p[1], -p[0]}
	}
	return p
}

// lifted is the pair after the three steps. They are the same from both ends, so that they are undone by the other sign.
func (t turn) lifted(p pair, sign int) pair {
	outer, inner := lifting(0, t.half, -sign), lifting(1, t.sine, sign)
	return outer(inner(outer(p)))
}

// lifting returns the step that adds to the number at that place the other one times factor / 16384, rounded and with that sign. The sign stays outside, as rounding is not the same on both sides of 0.
func lifting(place, factor, sign int) func(pair) pair {
	return func(p pair) pair {
		p[place] += sign * scaled(factor*p[1-place])
		return p
	}
}

// scaled is round(v / 16384).
func scaled(v int) int { return (v + 1<<13) >> 14 }
