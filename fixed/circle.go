package fixed

import "shawm/api"

const (
	unit    = 16384 // what stands for 1 in the results, and how many steps a full turn has
	quarter = unit / 4
	fine    = 1 << 31 // what stands for 1 on the way to them
)

// point is a point of a circle around (0, 0).
type point struct{ x, y int }

// parts are, on the fine circle, where 1/8, 1/16, .. , 1/16384 of a turn lead to from (1, 0).
var parts = [...]point{
	{1518500250, 1518500250},
	{1984016189, 821806413},
	{2106220352, 418953276},
	{2137142927, 210490206},
	{2144896910, 105372028},
	{2146836866, 52701887},
	{2147321946, 26352928},
	{2147443222, 13176712},
	{2147473542, 6588387},
	{2147481121, 3294197},
	{2147483016, 1647099},
	{2147483490, 823550},
}

// Sin returns 16384 times the sine of n / d of a full turn.
func Sin(n, d int) (int, api.Errno) {
	if e := checkAngle(n, d); e != api.OK {
		return 0, e
	}
	return circle(n * (unit / d)).y, api.OK
}

// Cos returns 16384 times the cosine of n / d of a full turn.
func Cos(n, d int) (int, api.Errno) {
	if e := checkAngle(n, d); e != api.OK {
		return 0, e
	}
	return circle(n * (unit / d)).x, api.OK
}

// Half returns 16384 times the tangent of half of n / d of a full turn, for at most an eighth of a turn to either side.
func Half(n, d int) (int, api.Errno) {
	if e := checkAngle(n, d); e != api.OK {
		return 0, e
	}
	if 8*n < -d || 8*n > d {
		return 0, api.ErrRange
	}
	p := within(max(n, -n) * (unit / d))
	t := round(unit*p.y, fine+p.x)
	if n < 0 {
		t = -t
	}
	return t, api.OK
}

func checkAngle(n, d int) api.Errno {
	if d < 1 || d > unit || d&(d-1) != 0 {
		return api.ErrArg
	}
	if n < -1<<40 || n > 1<<40 {
		return api.ErrRange
	}
	return api.OK
}

// circle is the point of the circle of the radius 16384 to which that many steps lead.
func circle(steps int) point {
	steps &= unit - 1
	p := within(steps % quarter)
	turn := quarters(steps / quarter)
	return turn(point{round(p.x, fine/unit), round(p.y, fine/unit)})
}

// within is the point of the fine circle to which less than a quarter of a turn leads. It is near enough for the nearest integers of all results: tests compare each of them.
func within(steps int) point {
	p := point{fine, 0}
	for i, bit := range digits(steps, len(parts)) {
		if bit == 1 {
			c, s := parts[i].x, parts[i].y
			p = point{nearFine(p.x*c - p.y*s), nearFine(p.x*s + p.y*c)}
		}
	}
	return p
}

// nearFine is round(v / fine) of a v that is too large to be doubled.
func nearFine(v int) int { return floor(v+fine/2, fine) }

// quarters returns what turns a point by q quarters, which changes places and signs alone.
func quarters(q int) func(point) point {
	return func(p point) point {
		for range q {
			p = point{-p.y, p.x}
		}
		return p
	}
}
