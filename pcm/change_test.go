package pcm_test

import (
	"math"
	"slices"
	"testing"

	"shawm/api"
	"shawm/pcm"
)

func TestMono(t *testing.T) {
	s, e := pcm.Mono(sound(16000, []int{3, 2, -1, -3, 1, api.MinSample, api.MaxSample, api.MinSample}, []int{-4, 4, 0, -4, 0, api.MinSample, api.MaxSample, api.MaxSample}))
	if e != api.OK || !equal(s, sound(16000, []int{-1, 3, -1, -4, 0, api.MinSample, api.MaxSample, -1})) {
		t.Errorf("Mono = %v, %d", s, e)
	}
	for i, s := range sounds() {
		m, e := pcm.Mono(s)
		if e != api.OK || m.Rate != s.Rate || len(m.Channels) != 1 || len(m.Channels[0]) != len(s.Channels[0]) {
			t.Fatalf("Mono of sound %d: %d", i, e)
		}
		if len(s.Channels) == 1 && !equal(m, s) {
			t.Errorf("Mono of sound %d, which has one channel, is another sound", i)
		}
	}
}

func TestWide(t *testing.T) {
	for i, s := range sounds() {
		w, e := pcm.Wide(s)
		if e != api.OK || w.Rate != s.Rate || len(w.Channels) != 2 || !slices.Equal(w.Channels[0], s.Channels[0]) || !slices.Equal(w.Channels[1], s.Channels[len(s.Channels)-1]) {
			t.Fatalf("Wide of sound %d: %d", i, e)
		}
		if m, e := pcm.Mono(w); len(s.Channels) == 1 && (e != api.OK || !equal(m, s)) {
			t.Errorf("Mono of Wide of sound %d: %d", i, e)
		}
	}
}

func TestCut(t *testing.T) {
	s := sound(8000, []int{1, 2, 3, 4}, []int{5, 6, 7, 8})
	for from := range 5 {
		for to := from; to <= 4; to++ {
			c, e := pcm.Cut(s, from, to)
			if e != api.OK || !equal(c, sound(8000, s.Channels[0][from:to], s.Channels[1][from:to])) {
				t.Errorf("Cut from %d to %d: %v, %d", from, to, c, e)
			}
		}
	}
	for _, p := range [][2]int{{-1, 2}, {2, 1}, {0, 5}, {5, 5}, {4, 3}, {-1, -1}, {math.MinInt, 0}, {0, math.MaxInt}, {math.MaxInt, math.MinInt}, {math.MinInt, math.MaxInt}, {math.MaxInt, math.MaxInt}} {
		if c, e := pcm.Cut(s, p[0], p[1]); e != api.ErrRange || !isZero(c) {
			t.Errorf("Cut of %v: %v, %d", p, c, e)
		}
	}
	if c, e := pcm.Cut(sound(8000, nil), 0, 0); e != api.OK || c.Rate != 8000 || len(c.Channels) != 1 || len(c.Channels[0]) != 0 {
		t.Errorf("Cut of nothing: %v, %d", c, e)
	}
}

func TestJoin(t *testing.T) {
	a, b := sound(8000, []int{1, 2}, []int{3, 4}), sound(8000, []int{5}, []int{6})
	if j, e := pcm.Join(a, b); e != api.OK || !equal(j, sound(8000, []int{1, 2, 5}, []int{3, 4, 6})) {
		t.Errorf("Join = %v, %d", j, e)
	}
	if j, e := pcm.Join(sound(8000, nil), sound(8000, nil)); e != api.OK || j.Rate != 8000 || len(j.Channels) != 1 || len(j.Channels[0]) != 0 {
		t.Errorf("Join of nothing = %v, %d", j, e)
	}
	long := sound(8000, flat(1, api.MaxSamples), flat(2, api.MaxSamples))
	if j, e := pcm.Join(long, sound(8000, nil, nil)); e != api.OK || !equal(j, long) {
		t.Errorf("Join up to MaxSamples: %d", e)
	}
	if j, e := pcm.Join(long, b); e != api.ErrFull || !isZero(j) {
		t.Errorf("Join of more than MaxSamples: %d", e)
	}
	if j, e := pcm.Join(b, long); e != api.ErrFull || !isZero(j) {
		t.Errorf("Join of more than MaxSamples: %d", e)
	}
}

// TestForm has sounds that do not go together, some of which are too long as well.
func TestForm(t *testing.T) {
	a := sound(8000, flat(1, api.MaxSamples))
	for _, b := range []api.Sound{sound(11025, []int{1}), sound(8000, []int{1}, []int{1}), sound(8000, nil, nil), sound(48000, nil), sound(11025, []int{1}, []int{1})} {
		for _, p := range [][2]api.Sound{{a, b}, {b, a}} {
			if j, e := pcm.Join(p[0], p[1]); e != api.ErrForm || !isZero(j) {
				t.Errorf("Join: %d", e)
			}
			if m, e := pcm.Mix(p[0], p[1], 256, 256); e != api.ErrForm || !isZero(m) {
				t.Errorf("Mix: %d", e)
			}
			if m, e := pcm.Mix(p[0], p[1], 1025, 256); e != api.ErrArg || !isZero(m) {
				t.Errorf("Mix with a wrong gain: %d", e)
			}
		}
	}
}

func TestMix(t *testing.T) {
	cases := []struct{ x, y, g, h, want int }{
		{100, 50, 128, 256, 100},
		{1, 0, 128, 0, 1}, {1, 0, 127, 0, 0}, {-1, 0, 128, 0, 0}, {-1, 0, 129, 0, -1}, {3, 0, 128, 0, 2}, {-3, 0, 128, 0, -1},
		{0, 1, 0, 128, 1}, {0, -1, 0, 128, 0}, {1, 1, 64, 64, 1}, {1, 1, 64, 63, 0}, {5, 5, 256, -256, 0},
		{20000, 20000, 256, 256, 32767}, {-20000, -20000, 256, 256, -32768}, {32767, 0, 1024, 0, 32767}, {-32768, 0, 1024, 0, -32768},
		{-32768, 0, -256, 0, 32767}, {32767, 1, 256, 256, 32767}, {-32768, -1, 256, 256, -32768}, {-32767, -1, 256, 256, -32768}, {32766, 1, 256, 256, 32767},
		{-32768, -32768, -1024, -1024, 32767}, {-32768, -32768, 1024, 1024, -32768}, {7, 9, 0, 0, 0}, {1000, 1, -1, 1, -4},
	}
	for _, c := range cases {
		m, e := pcm.Mix(sound(8000, []int{c.x}), sound(8000, []int{c.y}), c.g, c.h)
		if e != api.OK || !equal(m, sound(8000, []int{c.want})) {
			t.Errorf("Mix of %v: %v, %d", c, m, e)
		}
	}
	for _, g := range []int{-1025, 1025, math.MinInt, math.MaxInt} {
		s := sound(8000, []int{1})
		m, e := pcm.Mix(s, s, g, 0)
		n, f := pcm.Mix(s, s, 0, g)
		if e != api.ErrArg || f != api.ErrArg || !isZero(m) || !isZero(n) {
			t.Errorf("Mix with the gain %d: %d, %d", g, e, f)
		}
	}
}

func TestMixOfOtherLengths(t *testing.T) {
	a, b := sound(8000, []int{100, 200, 300}, []int{1, 2, 3}), sound(8000, []int{7}, []int{-7})
	if m, e := pcm.Mix(a, b, 256, 512); e != api.OK || !equal(m, sound(8000, []int{114, 200, 300}, []int{-13, 2, 3})) {
		t.Errorf("Mix = %v, %d", m, e)
	}
	if m, e := pcm.Mix(b, a, 512, 128); e != api.OK || !equal(m, sound(8000, []int{64, 100, 150}, []int{-13, 1, 2})) {
		t.Errorf("Mix = %v, %d", m, e)
	}
	if m, e := pcm.Mix(sound(8000, nil), sound(8000, nil), 1, 1); e != api.OK || m.Rate != 8000 || len(m.Channels) != 1 || len(m.Channels[0]) != 0 {
		t.Errorf("Mix of nothing = %v, %d", m, e)
	}
}

// TestMixPromises is the promise P2.8.
func TestMixPromises(t *testing.T) {
	for i, s := range sounds() {
		short, _ := pcm.Cut(s, 0, len(s.Channels[0])/2)
		for _, o := range []api.Sound{s, short} {
			if m, e := pcm.Mix(s, o, 256, 0); e != api.OK || !equal(m, s) {
				t.Errorf("sound %d alone: %d", i, e)
			}
			for _, g := range []int{-1024, -257, 0, 300, 1024} {
				m, e := pcm.Mix(s, o, g, 1024)
				if p, f := pcm.Peak(m); e != api.OK || f != api.OK || p > api.MaxSample+1 {
					t.Errorf("sound %d: the peak %d, %d, %d", i, p, e, f)
				}
			}
		}
	}
}

func TestPeakAndPower(t *testing.T) {
	cases := []struct {
		s     api.Sound
		peak  int
		power []int
	}{
		{sound(8000, nil), 0, []int{0}},
		{sound(8000, nil, nil), 0, []int{0, 0}},
		{sound(8000, []int{0, 0}), 0, []int{0}},
		{sound(8000, []int{1, -2}), 2, []int{5}},
		{sound(8000, []int{1, -2}, []int{3, 0}), 3, []int{5, 9}},
		{sound(8000, []int{5, -2}, []int{3, -1}), 5, []int{29, 10}},
		{sound(8000, []int{api.MaxSample}), 32767, []int{32767 * 32767}},
		{sound(8000, []int{api.MaxSample}, []int{api.MinSample}), 32768, []int{32767 * 32767, 1 << 30}},
		{sound(8000, flat(api.MinSample, api.MaxSamples)), 32768, []int{1 << 43}},
	}
	for i, c := range cases {
		p, e := pcm.Peak(c.s)
		l, f := pcm.Power(c.s)
		if p != c.peak || e != api.OK || !slices.Equal(l, c.power) || f != api.OK {
			t.Errorf("case %d: the peak %d, the power %v", i, p, l)
		}
	}
}

// TestParts is the promise P2.7.
func TestParts(t *testing.T) {
	for i, s := range sounds() {
		n := len(s.Channels[0])
		for _, at := range []int{0, n / 3, n / 2, n} {
			a, e := pcm.Cut(s, 0, at)
			b, f := pcm.Cut(s, at, n)
			j, g := pcm.Join(a, b)
			if e != api.OK || f != api.OK || g != api.OK || !equal(j, s) {
				t.Errorf("sound %d in two parts: %d, %d, %d", i, e, f, g)
			}
			x, _ := pcm.Power(a)
			y, _ := pcm.Power(b)
			z, e := pcm.Power(j)
			if e != api.OK || len(z) != len(s.Channels) {
				t.Fatalf("Power of sound %d: %v, %d", i, z, e)
			}
			for k := range z {
				if z[k] != x[k]+y[k] {
					t.Errorf("Power of sound %d: %v, of its parts %v and %v", i, z, x, y)
				}
			}
		}
	}
}
