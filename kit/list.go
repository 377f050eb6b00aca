package kit

import "iter"

// Lists yields, in lexicographic order, all strictly increasing lists of indexes below n of which each one fits those
// before it.
func Lists(n int, fits func(list []int, index int) bool) iter.Seq[[]int] {
	return func(yield func([]int) bool) {
		grow(nil, n, fits, yield)
	}
}

// grow yields a list and all that it begins, and reports whether to go on. Each list has memory of its own.
func grow(list []int, n int, fits func(list []int, index int) bool, yield func([]int) bool) bool {
	if !yield(list) {
		return false
	}
	end := len(list)
	next := 0
	if end > 0 {
		next = list[end-1] + 1
	}
	for index := next; index < n; index++ {
		if fits(list, index) && !grow(append(list[:end:end], index), n, fits, yield) {
			return false
		}
	}
	return true
}
