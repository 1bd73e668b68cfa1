package lossless_test

import (
	"math"
	"math/rand"
	"slices"
	"strings"
	"testing"

	"shawm/api"
	"shawm/bits"
	"shawm/bittext"
	"shawm/linear"
	"shawm/lossless"
	"shawm/rice"
)

// plan is a kind and an order.
type plan struct{ kind, order int }

// plans are those of the chapter, in its order.
func plans() []plan {
	all := []plan{{0, 0}, {1, 0}}
	for k := range 5 {
		all = append(all, plan{2, k})
	}
	for p := 1; p <= 12; p++ {
		all = append(all, plan{3, p})
	}
	return all
}

// has tells whether a signal has a plan.
func (p plan) has(x []int) bool {
	return p.kind != 0 || !slices.ContainsFunc(x, func(v int) bool { return v != x[0] })
}

// inParts is a list, written by layer 5.
func inParts(t *testing.T, l []int) string {
	t.Helper()
	w := bits.New()
	if e := rice.Write(w, l); e != api.OK {
		t.Fatalf("Write of %v: %d", l, e)
	}
	return bittext.Of(w)
}

// numbers are digits of a list, each element in two's complement of n bits.
func numbers(l []int, n int) string {
	var s strings.Builder
	for _, v := range l {
		s.WriteString(bittext.Number(v, n))
	}
	return s.String()
}

// text is a signal, written with a plan that it has, by the chapter's words.
func (p plan) text(t *testing.T, x []int) string {
	t.Helper()
	s := bittext.Number(p.kind, 2)
	switch p.kind {
	case 0:
		return s + numbers(x[:1], 17)
	case 1:
		return s + numbers(x, 17)
	case 2:
		d, e := linear.Differ(x, p.order)
		if e != api.OK {
			t.Fatalf("Differ of %v: %d", x, e)
		}
		return s + bittext.Number(p.order, 3) + inParts(t, d)
	}
	filter, e := linear.Reflect(x, p.order)
	if e != api.OK {
		t.Fatalf("Reflect of %v: %d", x, e)
	}
	return s + bittext.Number(p.order, 4) + filtered(t, x, filter)
}

// filtered is a signal with a filter, without the kind and the order.
func filtered(t *testing.T, x, filter []int) string {
	t.Helper()
	d, e := linear.Residual(x, filter)
	if e != api.OK {
		t.Fatalf("Residual of %v: %d", x, e)
	}
	return numbers(filter, 8) + inParts(t, d)
}

// bestOf is the plan of a signal, and its text.
func bestOf(t *testing.T, x []int) (plan, string) {
	t.Helper()
	var best plan
	text := ""
	for _, p := range plans() {
		if !p.has(x) {
			continue
		}
		if s := p.text(t, x); text == "" || len(s) < len(text) {
			best, text = p, s
		}
	}
	return best, text
}

// noise are n numbers from -most to most.
func noise(random *rand.Rand, n, most int) []int {
	l := make([]int, n)
	for i := range l {
		l[i] = random.Intn(2*most+1) - most
	}
	return l
}

// clipped is a list with all that is below low, or above high, put there.
func clipped(x []int, low, high int) []int {
	l := slices.Clone(x)
	for i, v := range l {
		l[i] = min(max(v, low), high)
	}
	return l
}

// wave is a list of n numbers that are predicted well: those of a filter, of differences, or one.
func wave(random *rand.Rand, n int) []int {
	far := 1 << random.Intn(10)
	switch random.Intn(4) {
	case 0:
		return slices.Repeat([]int{random.Intn(65536) - 32768}, n)
	case 1:
		l := noise(random, n, random.Intn(3))
		for range random.Intn(5) {
			for i := 1; i < n; i++ {
				l[i] += l[i-1]
			}
		}
		return l
	case 2:
		l := make([]int, n)
		step := random.Float64() * 3
		for i := range l {
			l[i] = int(20000*math.Sin(step*float64(i))+float64(far)*math.Cos(2.1*step*float64(i))) + random.Intn(3)
		}
		return l
	}
	filter := noise(random, 1+random.Intn(12), 127)
	for {
		if l, e := linear.Restore(noise(random, n, far), filter); e == api.OK {
			return l
		}
		for i := range filter {
			filter[i] /= 2
		}
	}
}

// signals have all lengths and all plans.
func signals() [][]int {
	random := rand.New(rand.NewSource(1))
	all := [][]int{
		{7}, {0}, {-65536}, {65535}, {1}, {65535, -65536}, make([]int, 128), slices.Repeat([]int{-65536}, 128), slices.Repeat([]int{65535, -65536}, 64), slices.Repeat([]int{65535}, 127),
		slices.Repeat([]int{32767, -32768}, 64), noise(random, 128, 65535), noise(random, 128, 30000), append(make([]int, 127), 1), append([]int{-65536}, make([]int, 127)...),
	}
	for n := 1; n <= 128; n++ {
		all = append(all, clipped(wave(random, n), -65536, 65535))
	}
	for range 150 {
		all = append(all, clipped(wave(random, 128), -65536, 65535), noise(random, 1+random.Intn(16), 1<<random.Intn(16)))
	}
	return all
}

// notSignals have the error with which they are refused.
func notSignals() map[api.Errno][][]int {
	all := map[api.Errno][][]int{api.ErrArg: {nil, {}, make([]int, 129), make([]int, 5000), slices.Repeat([]int{65536}, 129)}}
	for _, v := range []int{65536, -65537, 1 << 20, 1 << 40, math.MaxInt, math.MinInt} {
		all[api.ErrRange] = append(all[api.ErrRange], []int{v}, []int{0, v}, []int{v, 0, 0}, slices.Repeat([]int{v}, 128), append(make([]int, 127), v))
	}
	return all
}

func is[T comparable](t *testing.T, name string, got T, e api.Errno, want T) {
	t.Helper()
	if got != want || e != api.OK {
		t.Errorf("%s: %v, %d, want %v", name, got, e, want)
	}
}

// TestPlan is the promise P20.6.
func TestPlan(t *testing.T) {
	seen := map[plan]int{}
	ties := 0
	for _, x := range signals() {
		was := slices.Clone(x)
		want, text := bestOf(t, x)
		kind, order, cost, e := lossless.Plan(x)
		is(t, "Plan", plan{kind, order}, e, want)
		is(t, "its bits", cost, e, len(text))
		if cost > 17*len(x)+2 {
			t.Errorf("Plan of %v has %d bits", x, cost)
		}
		for _, p := range plans() {
			if p.has(x) && p != want && len(p.text(t, x)) == len(text) {
				ties++
			}
		}
		if !slices.Equal(x, was) {
			t.Errorf("the signal became %v", x)
		}
		seen[want]++
	}
	if len(seen) < 15 || ties < 20 {
		t.Errorf("only these plans were seen: %v, and %d that have as many bits", seen, ties)
	}
	for _, c := range []struct {
		x    []int
		want plan
		cost int
	}{
		{make([]int, 128), plan{0, 0}, 19}, {[]int{7}, plan{2, 0}, 16}, {[]int{65535}, plan{0, 0}, 19}, {slices.Repeat([]int{-65536}, 100), plan{0, 0}, 19},
		{[]int{65535, -65536}, plan{1, 0}, 36}, {[]int{0}, plan{2, 0}, 12}, {[]int{0, 0}, plan{2, 0}, 13},
	} {
		kind, order, cost, e := lossless.Plan(c.x)
		is(t, "Plan", plan{kind, order}, e, c.want)
		is(t, "its bits", cost, e, c.cost)
	}
}

func TestCost(t *testing.T) {
	for _, x := range signals() {
		was := slices.Clone(x)
		least, _ := bestOf(t, x)
		_, _, plain, _ := lossless.Plan(x)
		for _, p := range plans() {
			cost, e := lossless.Cost(x, p.kind, p.order)
			if !p.has(x) {
				if cost != 0 || e != api.ErrNone {
					t.Errorf("Cost of %v, constant: %d, %d", x, cost, e)
				}
				continue
			}
			is(t, "Cost", cost, e, len(p.text(t, x)))
			if cost < plain || p == least && cost != plain {
				t.Errorf("Cost of %v with %v: %d, and Plan has %d", x, p, cost, plain)
			}
		}
		if !slices.Equal(x, was) {
			t.Errorf("the signal became %v", x)
		}
	}
	for _, x := range [][]int{{5}, {5, 5, 5}, {1, 2, 3}} {
		for _, p := range []plan{
			{-1, 0}, {4, 0}, {4, 1}, {0, 1}, {0, -1}, {1, 1}, {1, -1}, {1, 12}, {2, 5}, {2, -1}, {2, 12}, {3, 0}, {3, 13}, {3, -1},
			{math.MaxInt, 0}, {math.MinInt, 0}, {2, math.MaxInt}, {2, math.MinInt}, {3, math.MaxInt}, {3, math.MinInt}, {math.MaxInt, math.MinInt},
		} {
			if cost, e := lossless.Cost(x, p.kind, p.order); cost != 0 || e != api.ErrNone {
				t.Errorf("Cost of %v with %v: %d, %d", x, p, cost, e)
			}
		}
	}
	cost, e := lossless.Cost([]int{7}, 2, 0)
	is(t, "Cost of 7", cost, e, 2+3+2+4+5)
	cost, e = lossless.Cost([]int{7}, 0, 0)
	is(t, "Cost of 7, constant", cost, e, 19)
	cost, e = lossless.Cost([]int{7, 8}, 1, 0)
	is(t, "Cost of 7 8, verbatim", cost, e, 36)
}

func TestSignalErrors(t *testing.T) {
	for want, list := range notSignals() {
		for _, x := range list {
			if kind, order, cost, e := lossless.Plan(x); kind != 0 || order != 0 || cost != 0 || e != want {
				t.Errorf("Plan of %v: %d, %d, %d, %d, want the error %d", x, kind, order, cost, e, want)
			}
			for _, p := range append(plans(), plan{4, 0}, plan{3, 13}, plan{-1, -1}) {
				if cost, e := lossless.Cost(x, p.kind, p.order); cost != 0 || e != want {
					t.Errorf("Cost of %v with %v: %d, %d, want the error %d", x, p, cost, e, want)
				}
			}
		}
	}
}
