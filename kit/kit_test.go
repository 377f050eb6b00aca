package kit_test

import (
	"math"
	"slices"
	"testing"

	"porringer/kit"
)

func TestWithin(t *testing.T) {
	for i, x := range []struct {
		lo, hi  int
		numbers []int
		want    bool
	}{
		{0, 5, []int{0, 5, 3}, true},
		{0, 5, []int{-1}, false},
		{0, 5, []int{3, 6}, false},
		{0, 5, []int{6, 3}, false},
		{0, 5, nil, true},
		{0, -1, []int{0}, false},
		{math.MinInt, math.MaxInt, []int{math.MinInt, math.MaxInt}, true},
	} {
		if got := kit.Within(x.lo, x.hi, x.numbers...); got != x.want {
			t.Error(i, got)
		}
	}
}

func TestIndexes(t *testing.T) {
	for i, x := range []struct {
		list []int
		n    int
		want bool
	}{
		{nil, 0, true},
		{[]int{0}, 0, false},
		{[]int{0, 2, 3}, 4, true},
		{[]int{0, 2, 3}, 3, false},
		{[]int{2, 2}, 4, false},
		{[]int{2, 1}, 4, false},
		{[]int{-1, 1}, 4, false},
		{[]int{math.MinInt}, 4, false},
		{[]int{3, math.MaxInt}, 4, false},
	} {
		if got := kit.Indexes(x.list, x.n); got != x.want {
			t.Error(i, got)
		}
	}
}

func TestBest(t *testing.T) {
	longer := func(one, other string) bool { return len(one) > len(other) }
	if got, found := kit.Best(slices.Values([]string{"a", "bb", "c", "dd"}), longer); got != "bb" || !found {
		t.Error(got, found)
	}
	if got, found := kit.Best(slices.Values([]string{"", "b"}), longer); got != "b" || !found {
		t.Error(got, found)
	}
	if got, found := kit.Best(slices.Values([]string(nil)), longer); got != "" || found {
		t.Error(got, found)
	}
}
