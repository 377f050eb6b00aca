package mould

import (
	"slices"
	"testing"
)

func TestLists(t *testing.T) {
	odd := func(list []int, index int) bool { return len(list) == 0 || (index-list[len(list)-1])%2 == 1 }
	for most := range 9 {
		var got [][]int
		for list := range lists(4, odd) {
			if len(got) == most {
				break
			}
			got = append(got, list)
		}
		want := [][]int{nil, {0}, {0, 1}, {0, 1, 2}, {0, 1, 2, 3}, {0, 3}, {1}, {1, 2}, {1, 2, 3}}
		if !slices.EqualFunc(got, want[:most], slices.Equal[[]int]) {
			t.Error(most, got)
		}
	}
}
