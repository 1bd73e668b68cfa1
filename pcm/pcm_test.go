package pcm_test

import (
	"math"
	"math/rand"
	"slices"
	"testing"

	"shawm/api"
	"shawm/pcm"
)

// rates are the rates that a sound can have.
func rates() []int { return []int{8000, 11025, 12000, 16000, 22050, 24000, 32000, 44100, 48000} }

func sound(rate int, channels ...[]int) api.Sound { return api.Sound{Rate: rate, Channels: channels} }

// noise is a sound of n samples at random in each channel.
func noise(seed int64, channels, n int) api.Sound {
	random := rand.New(rand.NewSource(seed))
	s := sound(44100)
	for range channels {
		c := make([]int, n)
		for i := range c {
			c[i] = random.Intn(1<<16) + api.MinSample
		}
		s.Channels = append(s.Channels, c)
	}
	return s
}

// flat is n times v.
func flat(v, n int) []int { return slices.Repeat([]int{v}, n) }

// sounds are valid sounds: no samples, one, many, MaxSamples; one channel and two.
func sounds() []api.Sound {
	l := []api.Sound{sound(8000, nil), sound(48000, []int{}, nil)}
	for i, n := range []int{0, 1, 2, 127, 128, 129, 300, api.MaxSamples - 1, api.MaxSamples} {
		l = append(l, noise(int64(i), 1, n), noise(int64(i), 2, n))
	}
	for _, r := range rates() {
		l = append(l, sound(r, []int{api.MinSample, -1, 0, 1, api.MaxSample}))
	}
	return l
}

// wrongs are sounds that are not valid.
func wrongs() map[string]api.Sound {
	return map[string]api.Sound{
		"the zero sound":            {},
		"no rate":                   sound(0, []int{1}),
		"a rate below":              sound(7999, []int{1}),
		"a rate above":              sound(48001, []int{1}),
		"a rate between":            sound(11026, []int{1}),
		"the rate 96000":            sound(96000, []int{1}),
		"a rate below 0":            sound(-8000, []int{1}),
		"the greatest rate":         sound(math.MaxInt, []int{1}),
		"no channel":                sound(8000),
		"three channels":            sound(8000, []int{1}, []int{1}, []int{1}),
		"three channels of nothing": sound(8000, nil, nil, nil),
		"a shorter channel":         sound(8000, []int{1, 2}, []int{1}),
		"a longer channel":          sound(8000, nil, []int{1}),
		"too many samples":          sound(8000, flat(0, api.MaxSamples+1)),
		"too many in the second":    sound(8000, flat(0, api.MaxSamples), flat(0, api.MaxSamples+1)),
		"a sample above":            sound(8000, []int{0, 32768}),
		"a sample below":            sound(8000, []int{-32769, 0}),
		"a sample in the second":    sound(8000, []int{0, 0}, []int{0, 32768}),
		"the greatest sample":       sound(8000, []int{math.MaxInt}),
		"the least sample":          sound(8000, []int{0}, []int{math.MinInt}),
	}
}

func copyOf(s api.Sound) api.Sound {
	c := sound(s.Rate)
	for _, l := range s.Channels {
		c.Channels = append(c.Channels, slices.Clone(l))
	}
	return c
}

// equal compares with the test's own loop, not with Same.
func equal(a, b api.Sound) bool {
	if a.Rate != b.Rate || len(a.Channels) != len(b.Channels) {
		return false
	}
	for k := range a.Channels {
		if !slices.Equal(a.Channels[k], b.Channels[k]) {
			return false
		}
	}
	return true
}

// isZero tells whether s is what stands beside an error.
func isZero(s api.Sound) bool { return s.Rate == 0 && len(s.Channels) == 0 }

// change sets all samples of s to 77, to find memory that is shared.
func change(s api.Sound) {
	for _, c := range s.Channels {
		for i := range c[:cap(c)] {
			c[:cap(c)][i] = 77
		}
	}
}

func TestCheck(t *testing.T) {
	for i, s := range sounds() {
		if e := pcm.Check(s); e != api.OK {
			t.Errorf("sound %d: %d", i, e)
		}
	}
	for name, s := range wrongs() {
		if e := pcm.Check(s); e != api.ErrArg {
			t.Errorf("%s: %d", name, e)
		}
	}
}

// TestWrongSounds gives sounds that are not valid to all functions, with other arguments that are wrong too.
func TestWrongSounds(t *testing.T) {
	good := sound(8000, []int{1, 2})
	for name, s := range wrongs() {
		calls := map[string]func() (api.Sound, api.Errno){
			"Pad":               func() (api.Sound, api.Errno) { return pcm.Pad(s) },
			"Mono":              func() (api.Sound, api.Errno) { return pcm.Mono(s) },
			"Wide":              func() (api.Sound, api.Errno) { return pcm.Wide(s) },
			"Cut":               func() (api.Sound, api.Errno) { return pcm.Cut(s, 0, 0) },
			"Cut out of range":  func() (api.Sound, api.Errno) { return pcm.Cut(s, 2, 1) },
			"Join":              func() (api.Sound, api.Errno) { return pcm.Join(s, good) },
			"Join behind":       func() (api.Sound, api.Errno) { return pcm.Join(good, s) },
			"Join with itself":  func() (api.Sound, api.Errno) { return pcm.Join(s, s) },
			"Mix":               func() (api.Sound, api.Errno) { return pcm.Mix(s, good, 1, 1) },
			"Mix behind":        func() (api.Sound, api.Errno) { return pcm.Mix(good, s, 1, 1) },
			"Mix of other ones": func() (api.Sound, api.Errno) { return pcm.Mix(sound(48000, nil, nil), s, 1, 1) },
			"Frames":            func() (api.Sound, api.Errno) { n, e := pcm.Frames(s); return sound(n), e },
			"Peak":              func() (api.Sound, api.Errno) { n, e := pcm.Peak(s); return sound(n), e },
			"Interleave":        func() (api.Sound, api.Errno) { l, e := pcm.Interleave(s); return sound(len(l)), e },
			"Power":             func() (api.Sound, api.Errno) { l, e := pcm.Power(s); return sound(len(l)), e },
			"Wave":              func() (api.Sound, api.Errno) { b, e := pcm.Wave(s); return sound(len(b)), e },
		}
		for call, f := range calls {
			if out, e := f(); e != api.ErrArg || !isZero(out) {
				t.Errorf("%s of %s: %d, %v", call, name, e, out)
			}
		}
	}
}

func TestSame(t *testing.T) {
	for i, s := range sounds() {
		if !pcm.Same(s, s) || !pcm.Same(s, copyOf(s)) {
			t.Errorf("sound %d is not the same as itself", i)
		}
	}
	for name, s := range wrongs() {
		if !pcm.Same(s, copyOf(s)) {
			t.Errorf("%s is not the same as itself", name)
		}
	}
	s := sound(8000, []int{1, 2}, []int{3, 4})
	others := []api.Sound{
		sound(11025, []int{1, 2}, []int{3, 4}), sound(8000, []int{1, 2}), sound(8000, []int{1, 2}, []int{3, 5}), sound(8000, []int{0, 2}, []int{3, 4}),
		sound(8000, []int{1, 2}, []int{3, 4}, []int{5, 6}), sound(8000, []int{1, 2}, []int{3}), sound(8000, []int{1, 2, 0}, []int{3, 4}), sound(8000, []int{3, 4}, []int{1, 2}),
		sound(8000, []int{1, 2}, nil), sound(8000, []int{1, 2, 3, 4}), {},
	}
	for i, o := range others {
		if pcm.Same(s, o) || pcm.Same(o, s) {
			t.Errorf("the sound %d is the same", i)
		}
	}
	if !pcm.Same(sound(8000, nil), sound(8000, []int{})) {
		t.Error("nil is not the same as empty")
	}
}

func TestFramesAndPad(t *testing.T) {
	for n, want := range map[int]int{0: 0, 1: 1, 127: 1, 128: 1, 129: 2, 256: 2, 257: 3, 300: 3, api.MaxSamples - 1: 64, api.MaxSamples: 64} {
		for channels := 1; channels <= 2; channels++ {
			s := noise(int64(n), channels, n)
			p, e := pcm.Pad(s)
			if e != api.OK || p.Rate != s.Rate || len(p.Channels) != channels {
				t.Fatalf("Pad of %d samples: %d", n, e)
			}
			for k, c := range s.Channels {
				if want := slices.Concat(c, flat(0, 128*want-n)); !slices.Equal(p.Channels[k], want) {
					t.Errorf("Pad of %d samples: %d of them", n, len(p.Channels[k]))
				}
			}
			if got, e := pcm.Frames(s); got != want || e != api.OK {
				t.Errorf("Frames of %d samples: %d, %d", n, got, e)
			}
		}
	}
}

func TestInterleave(t *testing.T) {
	l, e := pcm.Interleave(sound(8000, []int{1, 2, 3}, []int{-4, -5, -6}))
	if e != api.OK || !slices.Equal(l, []int{1, -4, 2, -5, 3, -6}) {
		t.Errorf("Interleave = %v, %d", l, e)
	}
	l, e = pcm.Interleave(sound(8000, []int{1, 2, 3}))
	if e != api.OK || !slices.Equal(l, []int{1, 2, 3}) {
		t.Errorf("Interleave = %v, %d", l, e)
	}
	l, e = pcm.Interleave(sound(8000, nil, nil))
	if e != api.OK || len(l) != 0 {
		t.Errorf("Interleave = %v, %d", l, e)
	}
}

func TestSplit(t *testing.T) {
	l := []int{1, -4, 2, -5, api.MinSample, api.MaxSample}
	s, e := pcm.Split(l, 2, 22050)
	if e != api.OK || !equal(s, sound(22050, []int{1, 2, api.MinSample}, []int{-4, -5, api.MaxSample})) {
		t.Errorf("Split = %v, %d", s, e)
	}
	for _, rate := range rates() {
		if s, e := pcm.Split(l, 1, rate); e != api.OK || !equal(s, sound(rate, l)) {
			t.Errorf("Split at %d = %v, %d", rate, s, e)
		}
	}
	for channels := 1; channels <= 2; channels++ {
		if s, e := pcm.Split(nil, channels, 8000); e != api.OK || len(s.Channels) != channels || s.Rate != 8000 || pcm.Check(s) != api.OK {
			t.Errorf("Split of nothing = %v, %d", s, e)
		}
		if s, e := pcm.Split(flat(3, channels*api.MaxSamples), channels, 8000); e != api.OK || len(s.Channels[channels-1]) != api.MaxSamples {
			t.Errorf("Split of MaxSamples: %d", e)
		}
	}
}

func TestSplitErrors(t *testing.T) {
	wrong := 40000
	cases := []struct {
		name           string
		l              []int
		channels, rate int
		want           api.Errno
	}{
		{"no channel", []int{1}, 0, 8000, api.ErrArg},
		{"three channels", []int{1, 2, 3}, 3, 8000, api.ErrArg},
		{"channels below 0", nil, -1, 8000, api.ErrArg},
		{"the least channels", nil, math.MinInt, 8000, api.ErrArg},
		{"the greatest channels", nil, math.MaxInt, 8000, api.ErrArg},
		{"a wrong rate", []int{1}, 1, 8001, api.ErrArg},
		{"no rate", nil, 1, 0, api.ErrArg},
		{"a wrong rate, and odd", []int{wrong}, 2, 8001, api.ErrArg},
		{"odd", []int{1, 2, 3}, 2, 8000, api.ErrForm},
		{"odd, with what is no sample", []int{1, wrong, 3}, 2, 8000, api.ErrForm},
		{"odd, and too long", flat(wrong, 2*api.MaxSamples+1), 2, 8000, api.ErrForm},
		{"too long", flat(0, api.MaxSamples+1), 1, 8000, api.ErrFull},
		{"too long in two channels", flat(0, 2*api.MaxSamples+2), 2, 8000, api.ErrFull},
		{"too long, of no samples", flat(wrong, api.MaxSamples+1), 1, 8000, api.ErrFull},
		{"above", []int{0, 32768}, 1, 8000, api.ErrRange},
		{"below", []int{-32769, 0}, 2, 8000, api.ErrRange},
		{"far above", []int{math.MaxInt}, 1, 8000, api.ErrRange},
		{"far below", []int{math.MinInt}, 1, 8000, api.ErrRange},
	}
	for _, c := range cases {
		if s, e := pcm.Split(c.l, c.channels, c.rate); e != c.want || !isZero(s) {
			t.Errorf("%s: %d, want %d", c.name, e, c.want)
		}
	}
}

// TestSplitOfInterleave is the first half of the promise P2.6.
func TestSplitOfInterleave(t *testing.T) {
	for i, s := range sounds() {
		l, e := pcm.Interleave(s)
		again, f := pcm.Split(l, len(s.Channels), s.Rate)
		if e != api.OK || f != api.OK || !equal(again, s) || !pcm.Same(again, s) {
			t.Errorf("sound %d: %d, %d", i, e, f)
		}
	}
}

// TestNothingIsShared changes arguments and results, and looks whether something else changes with them.
func TestNothingIsShared(t *testing.T) {
	calls := map[string]func(s api.Sound) (api.Sound, api.Errno){
		"Pad":      pcm.Pad,
		"Mono":     pcm.Mono,
		"Wide":     pcm.Wide,
		"Cut":      func(s api.Sound) (api.Sound, api.Errno) { return pcm.Cut(s, 0, len(s.Channels[0])) },
		"Cut half": func(s api.Sound) (api.Sound, api.Errno) { return pcm.Cut(s, 3, len(s.Channels[0])/2) },
		"Join": func(s api.Sound) (api.Sound, api.Errno) {
			return pcm.Join(s, sound(44100, make([][]int, len(s.Channels))...))
		},
		"Mix":   func(s api.Sound) (api.Sound, api.Errno) { return pcm.Mix(s, s, 256, 0) },
		"Split": func(s api.Sound) (api.Sound, api.Errno) { return pcm.Split(s.Channels[0], 1, s.Rate) },
		"Split in two": func(s api.Sound) (api.Sound, api.Errno) {
			return pcm.Split(s.Channels[0], 2, s.Rate)
		},
	}
	for name, f := range calls {
		for channels := 1; channels <= 2; channels++ {
			s := noise(9, channels, 256)
			before := copyOf(s)
			first, e := f(s)
			kept := copyOf(first)
			if e != api.OK || !equal(s, before) {
				t.Errorf("%s changed its argument, or failed: %d", name, e)
			}
			change(s)
			if !equal(first, kept) {
				t.Errorf("%s shares memory with its argument", name)
			}
			s = copyOf(before)
			second, _ := f(s)
			if !equal(second, kept) {
				t.Errorf("%s again: other values", name)
			}
			change(first)
			if !equal(s, before) || !equal(second, kept) {
				t.Errorf("a result of %s shares memory", name)
			}
			clear(second.Channels[0])
			if len(second.Channels) == 2 && !slices.Equal(second.Channels[1], kept.Channels[1]) {
				t.Errorf("the channels of %s share memory", name)
			}
		}
	}
}
