package lossless

import (
	"slices"

	"shawm/api"
	"shawm/bits"
	"shawm/linear"
	"shawm/rice"
)

// readFrame reads channels with n samples each. With an error it stops in the midst of the bits.
func readFrame(r *bits.Reader, channels, n int) ([][]int, api.Errno) {
	flagBits := channels - 1 // one channel has no flag
	isCoupled, e := r.Get(flagBits)
	if e != api.OK {
		return nil, e
	}
	var l [][]int
	for range channels {
		x, e := readSignal(r, n)
		if e != api.OK {
			return nil, e
		}
		l = append(l, x)
	}
	if isCoupled == 1 {
		l[0], l[1] = parted(l[0], l[1])
	}
	if !isFrame(l) {
		return nil, api.ErrRange
	}
	return l, api.OK
}

// readSignal reads a signal of n elements.
func readSignal(r *bits.Reader, n int) ([]int, api.Errno) {
	kind, e := r.Get(kindBits)
	if e != api.OK {
		return nil, e
	}
	var x []int
	switch kind {
	case constant:
		if x, e = readNumbers(r, wide, 1); e == api.OK {
			x = slices.Repeat(x, n)
		}
	case verbatim:
		x, e = readNumbers(r, wide, n)
	case differences:
		x, e = readDifferences(r, n)
	case filter:
		x, e = readFiltered(r, n)
	}
	if e == api.OK && !isSignal(x) {
		return nil, api.ErrRange
	}
	return x, e
}

// readNumbers reads n numbers in two's complement.
func readNumbers(r *bits.Reader, width, n int) ([]int, api.Errno) {
	var l []int
	for range n {
		v, e := r.Signed(width)
		if e != api.OK {
			return nil, e
		}
		l = append(l, v)
	}
	return l, api.OK
}

func readDifferences(r *bits.Reader, n int) ([]int, api.Errno) {
	order, e := r.Get(differingBits)
	if e != api.OK {
		return nil, e
	}
	if order > mostDiffering {
		return nil, api.ErrForm
	}
	d, e := rice.Read(r, n)
	if e != api.OK {
		return nil, e
	}
	return linear.Add(d, order)
}

func readFiltered(r *bits.Reader, n int) ([]int, api.Errno) {
	f, e := readFilter(r)
	if e != api.OK {
		return nil, e
	}
	d, e := rice.Read(r, n)
	if e != api.OK {
		return nil, e
	}
	return linear.Restore(d, f)
}

// readFilter reads how many coefficients a filter has, and one after the other, as one that is wrong comes before one that is not there.
func readFilter(r *bits.Reader) ([]int, api.Errno) {
	order, e := r.Get(filterBits)
	if e != api.OK {
		return nil, e
	}
	if order < 1 || order > api.MaxOrder {
		return nil, api.ErrForm
	}
	var f []int
	for range order {
		k, e := r.Signed(coefficientBits)
		if e != api.OK {
			return nil, e
		}
		if k == -1<<(coefficientBits-1) {
			return nil, api.ErrForm
		}
		f = append(f, k)
	}
	return f, api.OK
}
