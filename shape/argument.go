package shape

import (
	"slices"

	"shawm/api"
)

const (
	mostBands = 32
	mostLimit = 1 << 56
)

// argument is a list, with the length that it must have, and the least and the greatest number that it may have.
type argument struct {
	list              []int
	length, low, high int
}

func coefficients(list []int) argument {
	return argument{list, api.FrameLen, -api.MaxCoef, api.MaxCoef}
}

func quanta(list []int) argument {
	return argument{list, api.FrameLen, -api.MaxQuant, api.MaxQuant}
}

func scalesOf(widths, list []int) argument {
	return argument{list, len(widths), 0, api.MaxScale}
}

func limitsOf(widths, list []int) argument {
	return argument{list, len(widths), 0, mostLimit}
}

// check finds what is wrong with the widths of bands, with the length of a list, and with an element of a list, in this order.
func check(widths []int, arguments ...argument) api.Errno {
	if !areWidths(widths) {
		return api.ErrArg
	}
	for _, a := range arguments {
		if len(a.list) != a.length {
			return api.ErrForm
		}
	}
	for _, a := range arguments {
		if !areWithin(a.list, a.low, a.high) {
			return api.ErrRange
		}
	}
	return api.OK
}

func areWidths(widths []int) bool {
	if len(widths) > mostBands || !areWithin(widths, 1, api.FrameLen) {
		return false
	}
	sum := 0
	for _, width := range widths {
		sum += width
	}
	return sum == api.FrameLen
}

func areWithin(list []int, low, high int) bool {
	return !slices.ContainsFunc(list, func(v int) bool { return v < low || v > high })
}
