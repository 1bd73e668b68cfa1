package fixed

import "shawm/api"

const one = 1 << 30 // what stands for 1 in logarithms and powers

// Log returns about 256 times the logarithm of n to the base 2.
func Log(n int) (int, api.Errno) {
	if n < 1 || n > 1<<62 {
		return 0, api.ErrRange
	}
	e := greatest(0, 62, func(e int) bool { return 1<<e <= n })
	m := scaled(n, 30-e)
	f := 0
	for range 8 {
		m = m * m / one
		f *= 2
		if m >= 2*one {
			m /= 2
			f++
		}
	}
	return 256*e + f, api.OK
}

// Exp returns about 2^(k/256).
func Exp(k int) (int, api.Errno) {
	if k < 0 || k > 15871 {
		return 0, api.ErrRange
	}
	m, c := one, 2*one
	for _, bit := range digits(k%256, 8) {
		c = root(c * one)
		if bit == 1 {
			m = m * c / one
		}
	}
	return scaled(m, k/256-30), api.OK
}

// Step returns the step of the scale q, about 16 times 2^(q/4).
func Step(q int) (int, api.Errno) {
	if q < 0 || q > api.MaxScale {
		return 0, api.ErrRange
	}
	ratios := [4]int{4096, 4871, 5793, 6889}
	return ratios[q%4] << (q / 4) / 256, api.OK
}

// scaled is floor(v 2^e).
func scaled(v, e int) int {
	if e < 0 {
		return v >> -e
	}
	return v << e
}
