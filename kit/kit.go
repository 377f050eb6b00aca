// Package kit is what the layers have in common: checks of numbers and of lists of them, marks, fractions, all lists, and choice.
package kit

import (
	"cmp"
	"iter"
)

// Within reports whether all numbers are from lo to hi.
func Within[T cmp.Ordered](lo, hi T, numbers ...T) bool {
	for _, n := range numbers {
		if n < lo || n > hi {
			return false
		}
	}
	return true
}

// Indexes reports whether a list is a strictly increasing one of indexes below n.
func Indexes(list []int, n int) bool {
	least := 0
	for _, index := range list {
		if !Within(least, n-1, index) {
			return false
		}
		least = index + 1
	}
	return true
}

// Mark marks the indexes of a list, and no others, whatever was marked before.
func Mark(marks []bool, list []int) {
	clear(marks)
	for _, index := range list {
		marks[index] = true
	}
}

// Best returns the first of several than which none is better, and false if there are none.
func Best[T any](several iter.Seq[T], better func(one, other T) bool) (T, bool) {
	var kept T
	found := false
	for one := range several {
		if !found || better(one, kept) {
			kept, found = one, true
		}
	}
	return kept, found
}

// First returns the first of several that is good, and false if none is.
func First[T any](several iter.Seq[T], good func(one T) bool) (T, bool) {
	for one := range several {
		if good(one) {
			return one, true
		}
	}
	var none T
	return none, false
}
