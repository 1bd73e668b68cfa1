package psycho

import (
	"cmp"

	"shawm/api"
	"shawm/energy"
	"shawm/fixed"
)

// What the noise of a band is below its own spread level.
const (
	alwaysLess     = 256
	lessForTone    = 3   // for each 1 of the tone
	lessForQuality = 128 // for each 1 of the quality
)

const (
	longRow  = 15
	shortRow = 4
)

// threshold is the level in quiet of pitches below its own.
type threshold struct{ pitch, level int }

var thresholds = [...]threshold{
	{100, 2560},
	{500, 1280},
	{2000, 768},
	{5000, 512},
	{10000, 1024},
	{15000, 2048},
}

const highestQuiet = 3072 // of all higher pitches

func quietAt(pitch int) int {
	for _, t := range thresholds {
		if pitch < t.pitch {
			return t.level
		}
	}
	return highestQuiet
}

// masksOf returns for each band of a spectrum the level of the noise that its sound, and that of its neighbors, hides.
func masksOf(c []int, quality int, short bool, groups []int) ([]int, api.Errno) {
	energies, e := energy.Energies(c, short, groups)
	if e != api.OK {
		return nil, e
	}
	tones, e := energy.Tones(c, short, groups)
	if e != api.OK {
		return nil, e
	}
	levels, e := energy.Levels(energies)
	if e != api.OK {
		return nil, e
	}
	row := longRow
	if short {
		row = shortRow
	}
	masks, e := energy.Spread(levels, row)
	if e != api.OK {
		return nil, e
	}
	for b, tone := range tones {
		masks[b] -= alwaysLess + lessForTone*tone + lessForQuality*quality
	}
	return masks, api.OK
}

// logOf has no error to tell, as every band has a width above 0.
func logOf(width int) int {
	level, _ := fixed.Log(width)
	return level
}

// powerOf has no error to tell, as no level is near to the greatest one that has a power.
func powerOf(level int) int {
	power, _ := fixed.Exp(greater(level, 0))
	return power
}

func greater[T cmp.Ordered](a, b T) T {
	if a < b {
		return b
	}
	return a
}
