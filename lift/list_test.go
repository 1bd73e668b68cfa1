package lift_test

import (
	"math"
	"math/rand"
	"slices"
	"testing"

	"shawm/api"
	"shawm/lift"
)

// lister is one of the functions of a list and turns.
type lister func(x []int, l []api.Turn) ([]int, api.Errno)

// listOf is a list of n numbers from -most to most.
func listOf(random *rand.Rand, n, most int) []int {
	x := make([]int, n)
	for i := range x {
		x[i] = number(random, most)
	}
	return x
}

// turnsOf are turns of a list of the length n, which is at least 2.
func turnsOf(random *rand.Rand, n, count int) []api.Turn {
	l := make([]api.Turn, count)
	for i := range l {
		places := random.Perm(n)
		l[i] = api.Turn{I: places[0], J: places[1], N: number(random, 1<<40), D: 1 << random.Intn(12)}
	}
	return l
}

// refuses fails unless a call returns that error, and no list.
func refuses(t *testing.T, name string, call lister, x []int, l []api.Turn, want api.Errno) {
	t.Helper()
	if y, e := call(x, l); len(y) != 0 || e != want {
		t.Errorf("%s: %v, %d, want the error %d", name, y, e, want)
	}
}

func TestApply(t *testing.T) {
	l := []api.Turn{{I: 0, J: 2, N: 1, D: 4}, {I: 2, J: 1, N: 1, D: 8}, {I: 1, J: 0, N: -3, D: 4}}
	// 3 9 5, then -5 9 3, then 3 and 9 turned.
	p, q := turned(3, 9, 1, 8)
	want := []int{q, 5, p}
	x := []int{3, 9, 5}
	y, e := lift.Apply(x, l)
	// (q, -5), turned by three quarters back, is by one quarter: (5, q).
	if e != api.OK || !slices.Equal(y, want) {
		t.Errorf("Apply: %v, %d, want %v", y, e, want)
	}
	if !slices.Equal(x, []int{3, 9, 5}) || l[2] != (api.Turn{I: 1, J: 0, N: -3, D: 4}) {
		t.Errorf("Apply changed %v or %v", x, l)
	}
	back, e := lift.Undo(y, l)
	if e != api.OK || !slices.Equal(back, x) || !slices.Equal(y, want) {
		t.Errorf("Undo: %v, %d", back, e)
	}
}

// TestLists compares with the chapter, turn by turn, and is the promise P6.4 for lists.
func TestLists(t *testing.T) {
	random := rand.New(rand.NewSource(11))
	for i := range 200 {
		n := []int{2, 3, 5, 16, 100}[i%5]
		x, l := listOf(random, n, 1<<20), turnsOf(random, n, i)
		want := slices.Clone(x)
		for _, turn := range l {
			want[turn.I], want[turn.J] = turned(want[turn.I], want[turn.J], turn.N, turn.D)
		}
		y, e := lift.Apply(x, l)
		if e != api.OK || !slices.Equal(y, want) {
			t.Fatalf("Apply of %v to %v: %v, %d, want %v", l, x, y, e, want)
		}
		if back, e := lift.Undo(y, l); e != api.OK || !slices.Equal(back, x) {
			t.Fatalf("Undo of Apply of %v to %v: %v, %d", l, x, back, e)
		}
		x = listOf(random, n, 1<<30)
		want = slices.Clone(x)
		for _, turn := range slices.Backward(l) {
			want[turn.I], want[turn.J] = turnedBack(want[turn.I], want[turn.J], turn.N, turn.D)
		}
		if y, e := lift.Undo(x, l); e != api.OK || !slices.Equal(y, want) {
			t.Fatalf("Undo of %v of %v: %v, %d, want %v", l, x, y, e, want)
		}
	}
}

func TestLongest(t *testing.T) {
	random := rand.New(rand.NewSource(12))
	l := turnsOf(random, 1024, 4096)
	x := slices.Repeat([]int{1 << 20, -1 << 20}, 512)
	y, e := lift.Apply(x, l)
	if e != api.OK {
		t.Fatalf("Apply: %d", e)
	}
	if back, e := lift.Undo(y, l); e != api.OK || !slices.Equal(back, x) {
		t.Errorf("Undo of Apply: %d", e)
	}
	// All turns meet in two places: what they hold stays in range.
	for i := range l {
		l[i].I, l[i].J = i%2, 1-i%2
	}
	if y, e = lift.Apply(x, l); e != api.OK {
		t.Fatalf("Apply: %d", e)
	}
	if back, e := lift.Undo(y, l); e != api.OK || !slices.Equal(back, x) {
		t.Errorf("Undo of Apply: %d", e)
	}
	if _, e := lift.Undo(slices.Repeat([]int{1 << 30}, 1024), l); e != api.OK {
		t.Errorf("Undo: %d", e)
	}
	for _, call := range []lister{lift.Apply, lift.Undo} {
		bad := []int{math.MaxInt}
		worse := []api.Turn{{D: 3}}
		refuses(t, "1025 elements", call, make([]int, 1025), nil, api.ErrFull)
		refuses(t, "1025 elements, one out of range", call, append(make([]int, 1024), bad...), worse, api.ErrFull)
		refuses(t, "4097 turns", call, make([]int, 2), turnsOf(random, 2, 4097), api.ErrFull)
		refuses(t, "4097 turns of elements out of range", call, bad, slices.Repeat(worse, 4097), api.ErrFull)
	}
}

func TestListsEmpty(t *testing.T) {
	for _, call := range []lister{lift.Apply, lift.Undo} {
		for _, x := range [][]int{nil, {}} {
			if y, e := call(x, nil); len(y) != 0 || e != api.OK {
				t.Errorf("of nothing: %v, %d", y, e)
			}
			refuses(t, "a turn of nothing", call, x, []api.Turn{{I: 0, J: 1, N: 0, D: 1}}, api.ErrArg)
		}
		for _, l := range [][]api.Turn{nil, {}} {
			x := []int{1, 2, 3}
			y, e := call(x, l)
			if e != api.OK || !slices.Equal(y, x) {
				t.Fatalf("no turns: %v, %d", y, e)
			}
			y[0] = 9
			if x[0] != 1 {
				t.Error("the result shares memory with the list")
			}
		}
	}
}

func TestListErrors(t *testing.T) {
	good := api.Turn{I: 0, J: 1, N: 1, D: 8}
	wrong := []api.Turn{
		{I: 0, J: 0, N: 1, D: 8}, {I: 1, J: 1, N: 0, D: 1}, {I: -1, J: 1, N: 1, D: 8}, {I: 0, J: -1, N: 1, D: 8}, {I: 0, J: 3, N: 1, D: 8}, {I: 3, J: 0, N: 1, D: 8},
		{I: math.MinInt, J: math.MaxInt, N: 1, D: 8}, {I: 5, J: 5, N: 1, D: 8},
		{I: 0, J: 1, N: 1, D: 0}, {I: 0, J: 1, N: 1, D: -8}, {I: 0, J: 1, N: 1, D: 12}, {I: 0, J: 1, N: 1, D: 4096}, {I: 0, J: 1, N: 1, D: math.MinInt},
		{I: 0, J: 1, N: 1 << 62, D: 3}, {I: 2, J: 2, N: math.MinInt, D: 8}, {},
	}
	far := []api.Turn{{I: 0, J: 1, N: 1<<40 + 1, D: 8}, {I: 2, J: 1, N: -1<<40 - 1, D: 1}, {I: 0, J: 1, N: math.MinInt, D: 2048}, {I: 0, J: 1, N: math.MaxInt, D: 2048}}
	for most, call := range map[int]lister{1 << 20: lift.Apply, 1 << 30: lift.Undo} {
		x := []int{most, 0, -most}
		for _, turn := range wrong {
			refuses(t, "a wrong turn", call, x, []api.Turn{turn}, api.ErrArg)
			refuses(t, "a wrong turn behind others", call, x, []api.Turn{good, good, turn, far[0]}, api.ErrArg)
			for _, other := range far {
				refuses(t, "a turn out of range ahead of a wrong one", call, x, []api.Turn{good, other, turn}, api.ErrRange)
			}
			for _, v := range []int{most + 1, -most - 1, math.MaxInt, math.MinInt} {
				refuses(t, "an element out of range, and a wrong turn", call, []int{0, 1, v}, []api.Turn{turn}, api.ErrRange)
			}
		}
		for _, turn := range far {
			refuses(t, "a turn out of range", call, x, []api.Turn{turn}, api.ErrRange)
			refuses(t, "a turn out of range behind others", call, x, []api.Turn{good, turn}, api.ErrRange)
		}
		for _, v := range []int{most + 1, -most - 1, math.MaxInt, math.MinInt} {
			refuses(t, "an element out of range", call, []int{v}, nil, api.ErrRange)
			refuses(t, "an element out of range", call, []int{0, 1, v}, []api.Turn{good}, api.ErrRange)
		}
		if !slices.Equal(x, []int{most, 0, -most}) {
			t.Errorf("the list became %v", x)
		}
		if _, e := call(x, []api.Turn{good, {I: 2, J: 0, N: -1 << 40, D: 2048}, {I: 1, J: 2, N: 1 << 40, D: 1}}); e != api.OK {
			t.Errorf("the greatest numbers are refused: %d", e)
		}
	}
}
