package pick_test

import (
	"cmp"
	"slices"
	"testing"

	"shawm/pick"
)

type thing struct{ cost, place int }

func byCost(a, b thing) int { return cmp.Compare(a.cost, b.cost) }

func TestLeast(t *testing.T) {
	for _, c := range []struct {
		costs []int
		want  thing
	}{
		{nil, thing{}}, {[]int{5}, thing{5, 0}}, {[]int{-5}, thing{-5, 0}}, {[]int{3, 2, 1}, thing{1, 2}}, {[]int{1, 2, 3}, thing{1, 0}},
		{[]int{4, 2, 7, 2, 2, 9}, thing{2, 1}}, {[]int{0, 0}, thing{0, 0}},
	} {
		var things []thing
		for i, cost := range c.costs {
			things = append(things, thing{cost, i})
		}
		if got := pick.Least(slices.Values(things), byCost); got != c.want {
			t.Errorf("Least of %v: %v, want %v", c.costs, got, c.want)
		}
	}
}
