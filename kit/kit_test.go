package kit_test

import (
	"math"
	"slices"
	"testing"

	"porringer/api"
	"porringer/kit"
)

func TestWithin(t *testing.T) {
	for i, x := range []struct {
		lo, hi  int
		numbers []int
		want    bool
	}{
		{0, 5, []int{0, 5, 3}, true},
		{0, 5, []int{-1}, false},
		{0, 5, []int{3, 6}, false},
		{0, 5, []int{6, 3}, false},
		{0, 5, nil, true},
		{0, -1, []int{0}, false},
		{math.MinInt, math.MaxInt, []int{math.MinInt, math.MaxInt}, true},
	} {
		if got := kit.Within(x.lo, x.hi, x.numbers...); got != x.want {
			t.Error(i, got)
		}
	}
}

func TestIndexes(t *testing.T) {
	for i, x := range []struct {
		list []int
		n    int
		want bool
	}{
		{nil, 0, true},
		{[]int{0}, 0, false},
		{[]int{0, 2, 3}, 4, true},
		{[]int{0, 2, 3}, 3, false},
		{[]int{2, 2}, 4, false},
		{[]int{2, 1}, 4, false},
		{[]int{-1, 1}, 4, false},
		{[]int{math.MinInt}, 4, false},
		{[]int{3, math.MaxInt}, 4, false},
	} {
		if got := kit.Indexes(x.list, x.n); got != x.want {
			t.Error(i, got)
		}
	}
}

func TestMark(t *testing.T) {
	for i, x := range []struct {
		marks []bool
		list  []int
		want  []bool
	}{
		{make([]bool, 3), []int{0, 2}, []bool{true, false, true}},
		{[]bool{true, true, false}, []int{1, 2}, []bool{false, true, true}},
		{[]bool{true, true}, nil, []bool{false, false}},
		{nil, nil, nil},
	} {
		if kit.Mark(x.marks, x.list); !slices.Equal(x.marks, x.want) {
			t.Error(i, x.marks)
		}
	}
}

func TestBest(t *testing.T) {
	longer := func(one, other string) bool { return len(one) > len(other) }
	if got, found := kit.Best(slices.Values([]string{"a", "bb", "c", "dd"}), longer); got != "bb" || !found {
		t.Error(got, found)
	}
	if got, found := kit.Best(slices.Values([]string{"", "b"}), longer); got != "b" || !found {
		t.Error(got, found)
	}
	if got, found := kit.Best(slices.Values([]string(nil)), longer); got != "" || found {
		t.Error(got, found)
	}
}

func TestFirst(t *testing.T) {
	asked := 0
	long := func(one string) bool {
		asked++
		return len(one) > 1
	}
	if got, found := kit.First(slices.Values([]string{"a", "bb", "c", "dd"}), long); got != "bb" || !found || asked != 2 {
		t.Error(got, found, asked)
	}
	if got, found := kit.First(slices.Values([]string{"a", "c"}), long); got != "" || found {
		t.Error(got, found)
	}
	if got, found := kit.First(slices.Values([]string(nil)), long); got != "" || found {
		t.Error(got, found)
	}
}

func TestDivisor(t *testing.T) {
	for i, x := range []struct {
		numbers []int64
		want    int64
	}{
		{[]int64{12, 18}, 6},
		{[]int64{-12, 18, 0}, 6},
		{[]int64{12, -18, 8}, 2},
		{[]int64{-5}, 5},
		{[]int64{0, -7}, 7},
		{[]int64{0, 0}, 1},
		{nil, 1},
	} {
		if got := kit.Divisor(x.numbers...); got != x.want {
			t.Error(i, got)
		}
	}
}

func TestRatio(t *testing.T) {
	for i, x := range []struct {
		num, den int64
		want     api.Ratio
	}{
		{12, 18, api.Ratio{Num: 2, Den: 3}},
		{-12, 18, api.Ratio{Num: -2, Den: 3}},
		{0, 18, api.Ratio{Num: 0, Den: 1}},
		{18, 18, api.Ratio{Num: 1, Den: 1}},
		{7, 3, api.Ratio{Num: 7, Den: 3}},
	} {
		if got := kit.Ratio(x.num, x.den); got != x.want {
			t.Error(i, got)
		}
	}
}

func TestBelow(t *testing.T) {
	increasing := []api.Ratio{{Num: -7, Den: 2}, {Num: -1, Den: 3}, {Num: -1, Den: 4}, {Num: 0, Den: 1}, {Num: 2, Den: 3}, {Num: 3, Den: 4}, {Num: 5, Den: 1}}
	for i, one := range increasing {
		for j, other := range increasing {
			if got := kit.Below(one, other); got != (i < j) {
				t.Error(one, other, got)
			}
		}
	}
}

func TestLists(t *testing.T) {
	odd := func(list []int, index int) bool { return len(list) == 0 || (index-list[len(list)-1])%2 == 1 }
	for most := range 10 {
		var got [][]int
		for list := range kit.Lists(4, odd) {
			if len(got) == most {
				break
			}
			got = append(got, list)
		}
		want := [][]int{nil, {0}, {0, 1}, {0, 1, 2}, {0, 1, 2, 3}, {0, 3}, {1}, {1, 2}, {1, 2, 3}}
		if !slices.EqualFunc(got, want[:most], slices.Equal[[]int]) {
			t.Error(most, got)
		}
	}
}

func TestListsOfAll(t *testing.T) {
	got := slices.Collect(kit.Lists(3, func([]int, int) bool { return true }))
	want := [][]int{nil, {0}, {0, 1}, {0, 1, 2}, {0, 2}, {1}, {1, 2}, {2}}
	if !slices.EqualFunc(got, want, slices.Equal[[]int]) {
		t.Error(got)
	}
}

func TestLongest(t *testing.T) {
	for i, x := range []struct {
		lists [][]int
		want  []int
	}{
		{[][]int{nil, {0}, {1, 2}, {0, 2}, {1}}, []int{1, 2}},
		{[][]int{{3, 4}, nil, {1, 2, 3}}, []int{1, 2, 3}},
		{[][]int{nil}, nil},
		{nil, nil},
	} {
		if got := kit.Longest(slices.Values(x.lists)); !slices.Equal(got, x.want) {
			t.Error(i, got)
		}
	}
}

func TestGrown(t *testing.T) {
	ending := func(list []int, number int) bool { return len(list) < 4 && (len(list) == 3 || number != len(list)) }
	var want [][]int
	for _, three := range [][]int{{1, 0, 0}, {1, 0, 1}, {1, 2, 0}, {1, 2, 1}, {2, 0, 0}, {2, 0, 1}, {2, 2, 0}, {2, 2, 1}} {
		for many := range three {
			if begun := three[:many]; !slices.ContainsFunc(want, func(list []int) bool { return slices.Equal(list, begun) }) {
				want = append(want, begun)
			}
		}
		want = append(want, three)
		for number := range 3 {
			want = append(want, append(slices.Clone(three), number))
		}
	}
	for most := range len(want) + 2 {
		var got [][]int
		for list := range kit.Grown(3, ending) {
			if len(got) == most {
				break
			}
			got = append(got, list)
		}
		if !slices.EqualFunc(got, want[:min(most, len(want))], slices.Equal[[]int]) {
			t.Error(most, got)
		}
	}
}
