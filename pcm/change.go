package pcm

import (
	"slices"

	"shawm/api"
)

// Mono returns s in one channel.
func Mono(s api.Sound) (api.Sound, api.Errno) {
	if e := Check(s); e != api.OK {
		return api.Sound{}, e
	}
	a, b := ends(s)
	mean := make([]int, len(a))
	for i := range a {
		mean[i] = (a[i] + b[i]) >> 1
	}
	return api.Sound{Rate: s.Rate, Channels: [][]int{mean}}, api.OK
}

// Wide returns s in two channels.
func Wide(s api.Sound) (api.Sound, api.Errno) {
	if e := Check(s); e != api.OK {
		return api.Sound{}, e
	}
	a, b := ends(s)
	return api.Sound{Rate: s.Rate, Channels: [][]int{slices.Clone(a), slices.Clone(b)}}, api.OK
}

// ends returns the first and the last channel of s: of one channel it twice.
func ends(s api.Sound) (a, b []int) { return s.Channels[0], s.Channels[len(s.Channels)-1] }

// Cut returns the samples at the positions from, .. , to - 1.
func Cut(s api.Sound, from, to int) (api.Sound, api.Errno) {
	if e := Check(s); e != api.OK {
		return api.Sound{}, e
	}
	if from < 0 || from > to || to > length(s) {
		return api.Sound{}, api.ErrRange
	}
	return change(s, func(c []int) []int { return slices.Clone(c[from:to:to]) }), api.OK
}

// Join returns a, then b.
func Join(a, b api.Sound) (api.Sound, api.Errno) {
	if e := match(a, b); e != api.OK {
		return api.Sound{}, e
	}
	if length(a)+length(b) > api.MaxSamples {
		return api.Sound{}, api.ErrFull
	}
	return merge(a, b, func(x, y []int) []int { return slices.Concat(x, y) }), api.OK
}

// Mix returns g times a and h times b together, 256 standing for 1.
func Mix(a, b api.Sound, g, h int) (api.Sound, api.Errno) {
	if !isGain(g) || !isGain(h) {
		return api.Sound{}, api.ErrArg
	}
	if e := match(a, b); e != api.OK {
		return api.Sound{}, e
	}
	return merge(a, b, func(x, y []int) []int {
		mixed := make([]int, max(len(x), len(y)))
		for i := range mixed {
			v := (g*at(x, i) + h*at(y, i) + 128) >> 8
			mixed[i] = min(max(v, api.MinSample), api.MaxSample)
		}
		return mixed
	}), api.OK
}

func isGain(g int) bool { return g >= -1024 && g <= 1024 }

// at is the sample of c at the position i, or 0 after its end.
func at(c []int, i int) int {
	if i < len(c) {
		return c[i]
	}
	return 0
}

// match returns ErrArg unless all sounds are valid, and ErrForm unless they have one rate and one number of channels.
func match(sounds ...api.Sound) api.Errno {
	for _, s := range sounds {
		if e := Check(s); e != api.OK {
			return e
		}
	}
	for _, s := range sounds {
		if s.Rate != sounds[0].Rate || len(s.Channels) != len(sounds[0].Channels) {
			return api.ErrForm
		}
	}
	return api.OK
}

// merge returns a sound whose channels are what f makes of those of a and of b.
func merge(a, b api.Sound, f func(x, y []int) []int) api.Sound {
	merged := api.Sound{Rate: a.Rate}
	for k, c := range a.Channels {
		merged.Channels = append(merged.Channels, f(c, b.Channels[k]))
	}
	return merged
}

// Peak returns the greatest absolute value of a sample.
func Peak(s api.Sound) (int, api.Errno) {
	if e := Check(s); e != api.OK {
		return 0, e
	}
	peak := 0
	for _, c := range s.Channels {
		for _, v := range c {
			peak = max(peak, v, -v)
		}
	}
	return peak, api.OK
}

// Power returns of each channel the sum of the squares of its samples.
func Power(s api.Sound) ([]int, api.Errno) {
	if e := Check(s); e != api.OK {
		return nil, e
	}
	powers := make([]int, len(s.Channels))
	for k, c := range s.Channels {
		for _, v := range c {
			powers[k] += v * v
		}
	}
	return powers, api.OK
}
