package energy

import (
	"slices"

	"shawm/api"
	"shawm/bands"
)

// cut returns the coefficients of a spectrum, band by band.
func cut(c []int, short bool, groups []int) ([][]int, api.Errno) {
	widths, e := bands.Widths(short, groups)
	if e != api.OK {
		return nil, e
	}
	left, e := bands.Gather(c, short, groups)
	if e != api.OK {
		return nil, e
	}
	if !areCoefficients(c) {
		return nil, api.ErrRange
	}
	var parts [][]int
	for _, width := range widths {
		parts = append(parts, left[:width:width])
		left = left[width:]
	}
	return parts, api.OK
}

func areCoefficients(list []int) bool { return within(list, -api.MaxCoef, api.MaxCoef) }

func within(list []int, low, high int) bool {
	return !slices.ContainsFunc(list, func(v int) bool { return v < low || v > high })
}

// sum adds up what value gives for each element of a list.
func sum[T any](list []T, value func(T) int) int {
	total := 0
	for _, v := range list {
		total += value(v)
	}
	return total
}

// each is a list of what value gives for each element of a list.
func each[T any](list []T, value func(T) int) []int {
	all := make([]int, 0, len(list))
	for _, v := range list {
		all = append(all, value(v))
	}
	return all
}
