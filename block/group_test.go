package block_test

import (
	"math"
	"math/rand"
	"slices"
	"testing"

	"shawm/api"
	"shawm/block"
)

func TestGroupsByHand(t *testing.T) {
	for _, c := range []struct{ energies, want []int }{
		{make([]int, 8), []int{8}},
		{[]int{1024, 0, 1024, 0, 0, 0, 0, 0}, []int{8}},
		{[]int{1025, 0, 0, 0, 0, 0, 0, 0}, []int{1, 7}},
		{[]int{0, 0, 0, 0, 0, 0, 0, 1025}, []int{7, 1}},
		{[]int{0, 0, 0, 1025, 1025, 0, 0, 0}, []int{3, 2, 3}},
		{[]int{1024, 3072, 7168, 15360, 31744, 64512, 130048, 261120}, []int{8}}, // each one is twice the one before and 1024
		{[]int{1024, 3073, 7170, 15364, 31752, 64528, 130080, 261184}, []int{1, 7}},
		{[]int{261120, 130048, 64512, 31744, 15360, 7168, 3072, 1024}, []int{8}},
		{[]int{261120, 130048, 64512, 31744, 15360, 7168, 3072, 1023}, []int{7, 1}},
		{[]int{2048, 5121, 2048, 5121, 2048, 5121, 2048, 5121}, []int{1, 1, 1, 1, 1, 1, 1, 1}},
		{[]int{2048, 5120, 2048, 5120, 2048, 5120, 2048, 5120}, []int{8}},
		{[]int{1 << 50, 1 << 50, 1 << 49, 1<<48 - 513, 1 << 50, 0, 0, 1 << 50}, []int{3, 1, 1, 2, 1}},
		{[]int{1 << 50, 1<<49 - 512, 1 << 50, 1<<49 - 513, 0, 0, 0, 0}, []int{3, 1, 4}},
	} {
		was := slices.Clone(c.energies)
		groups, e := block.Groups(c.energies)
		is(t, "Groups", groups, e, c.want)
		is(t, "the energies", c.energies, api.OK, was)
	}
}

// TestGroups is the promise P9.9, and compares with the chapter's words.
func TestGroups(t *testing.T) {
	random := rand.New(rand.NewSource(20))
	for range 2000 {
		energies := make([]int, 8)
		for i := range energies {
			energies[i] = random.Intn(1 << (10 + random.Intn(5)))
		}
		var want []int
		for i := range energies {
			if i > 0 {
				greater, less := energies[i-1], energies[i]
				if greater < less {
					greater, less = less, greater
				}
				if greater <= 2*less+1024 {
					want[len(want)-1]++
					continue
				}
			}
			want = append(want, 1)
		}
		groups, e := block.Groups(energies)
		is(t, "Groups", groups, e, want)
		sum := 0
		for _, n := range groups {
			sum += n
		}
		if sum != 8 {
			t.Errorf("the groups %v have the sum %d", groups, sum)
		}
	}
	for _, v := range []int{0, 1, 1023, 1024, 1 << 30, 1 << 50} {
		groups, e := block.Groups(slices.Repeat([]int{v}, 8))
		is(t, "Groups of energies that are all the same", groups, e, []int{8})
	}
}

func TestGroupErrors(t *testing.T) {
	for _, n := range []int{0, 1, 4, 7, 9, 16, 1 << 16} {
		groups, e := block.Groups(make([]int, n))
		fails(t, "Groups of another number", groups, e, api.ErrArg)
	}
	groups, e := block.Groups(nil)
	fails(t, "Groups of none", groups, e, api.ErrArg)
	for _, v := range []int{-1, 1<<50 + 1, math.MaxInt, math.MinInt} {
		for i := range 8 {
			energies := make([]int, 8)
			energies[i] = v
			groups, e := block.Groups(energies)
			fails(t, "Groups", groups, e, api.ErrArg)
		}
	}
}
