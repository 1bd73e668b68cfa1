// Package pcm cuts, joins and mixes sounds, and reads and writes them as files (layer 2).
package pcm

import (
	"slices"

	"shawm/api"
)

// Check tells whether s is valid.
func Check(s api.Sound) api.Errno {
	if !isRate(s.Rate) || !isCount(len(s.Channels)) {
		return api.ErrArg
	}
	for _, c := range s.Channels {
		if len(c) != length(s) || len(c) > api.MaxSamples || !areSamples(c) {
			return api.ErrArg
		}
	}
	return api.OK
}

// Same tells whether both have the same rate and the same samples.
func Same(a, b api.Sound) bool {
	return a.Rate == b.Rate && slices.EqualFunc(a.Channels, b.Channels, slices.Equal[[]int])
}

// Frames returns how many frames the samples need.
func Frames(s api.Sound) (int, api.Errno) {
	if e := Check(s); e != api.OK {
		return 0, e
	}
	return frames(s), api.OK
}

// Pad adds zeros up to the end of the last frame.
func Pad(s api.Sound) (api.Sound, api.Errno) {
	if e := Check(s); e != api.OK {
		return api.Sound{}, e
	}
	n := frames(s) * api.FrameLen
	return change(s, func(c []int) []int {
		padded := make([]int, n)
		copy(padded, c)
		return padded
	}), api.OK
}

// Interleave returns for each position the samples of the channels.
func Interleave(s api.Sound) ([]int, api.Errno) {
	if e := Check(s); e != api.OK {
		return nil, e
	}
	l := make([]int, 0, len(s.Channels)*length(s))
	for i := range length(s) {
		for _, c := range s.Channels {
			l = append(l, c[i])
		}
	}
	return l, api.OK
}

// Split returns the sound of which l is Interleave.
func Split(l []int, channels, rate int) (api.Sound, api.Errno) {
	switch {
	case !isCount(channels) || !isRate(rate):
		return api.Sound{}, api.ErrArg
	case len(l)%channels != 0:
		return api.Sound{}, api.ErrForm
	case len(l)/channels > api.MaxSamples:
		return api.Sound{}, api.ErrFull
	case !areSamples(l):
		return api.Sound{}, api.ErrRange
	}
	s := api.Sound{Rate: rate, Channels: make([][]int, channels)}
	for i, v := range l {
		s.Channels[i%channels] = append(s.Channels[i%channels], v)
	}
	return s, api.OK
}

func isRate(rate int) bool {
	rates := [...]int{8000, 11025, 12000, 16000, 22050, 24000, 32000, 44100, 48000}
	for _, r := range rates {
		if r == rate {
			return true
		}
	}
	return false
}

// isCount tells whether a sound can have that many channels.
func isCount(channels int) bool { return channels >= 1 && channels <= api.MaxChannels }

func areSamples(l []int) bool {
	for _, v := range l {
		if v < api.MinSample || v > api.MaxSample {
			return false
		}
	}
	return true
}

// length is how many samples each channel of s has.
func length(s api.Sound) int { return len(s.Channels[0]) }

func frames(s api.Sound) int { return (length(s) + api.FrameLen - 1) / api.FrameLen }

// change returns a sound whose channels are what f makes of those of s.
func change(s api.Sound, f func(c []int) []int) api.Sound {
	changed := api.Sound{Rate: s.Rate}
	for _, c := range s.Channels {
		changed.Channels = append(changed.Channels, f(c))
	}
	return changed
}
