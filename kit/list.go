package kit

import "iter"

// Grown yields, in lexicographic order, all lists of numbers below n of which each one fits those before it. It ends if
// only lists up to some length fit.
func Grown(n int, fits func(list []int, number int) bool) iter.Seq[[]int] {
	return func(yield func([]int) bool) {
		grow(nil, n, fits, yield)
	}
}

// Lists yields, in lexicographic order, all strictly increasing lists of indexes below n of which each one fits those
// before it.
func Lists(n int, fits func(list []int, index int) bool) iter.Seq[[]int] {
	return Grown(n, func(list []int, index int) bool {
		return (len(list) == 0 || index > list[len(list)-1]) && fits(list, index)
	})
}

// Longest returns the first of the longest ones of lists.
func Longest(lists iter.Seq[[]int]) []int {
	longest, _ := Best(lists, func(one, other []int) bool { return len(one) > len(other) })
	return longest
}

// grow yields a list and all that it begins, and reports whether to go on. Each list has memory of its own.
func grow(list []int, n int, fits func(list []int, number int) bool, yield func([]int) bool) bool {
	if !yield(list) {
		return false
	}
	end := len(list)
	for number := range n {
		if fits(list, number) && !grow(append(list[:end:end], number), n, fits, yield) {
			return false
		}
	}
	return true
}
