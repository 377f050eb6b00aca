package blame

import (
	"slices"

	"porringer/api"
	"porringer/kit"
)

// blames yields all blames, in lexicographic order.
func (d desk) blames(yield func(set) bool) {
	var s set
	for list := range kit.Lists(d.Inns, func([]int, int) bool { return true }) {
		s.mark(list)
		if d.isBlame(s) && !yield(s) {
			return
		}
	}
}

// smallest returns the first one of the smallest blames, and false if there is no blame.
func (d desk) smallest() (set, bool) {
	return kit.Best(d.blames, smaller)
}

// tight yields all tight blames, in lexicographic order: those that are left of all blames if those that have another one
// in them are left out. In whatever order that is done, a tight one is left for each, since it has none in it.
func (d desk) tight(yield func(set) bool) {
	found := map[set]bool{}
	for blame := range d.blames {
		found[blame] = true
	}
	for blame := range found {
		if hasAnother(found, blame) {
			delete(found, blame)
		}
	}
	for blame := range d.blames {
		if found[blame] && !yield(blame) {
			return
		}
	}
}

// hasAnother reports whether a blame has another one in it, of those that were found.
func hasAnother(found map[set]bool, blame set) bool {
	for other := range found {
		if other != blame && blame.has(other) {
			return true
		}
	}
	return false
}

// all returns all tight blames as lists, in lexicographic order.
func (d desk) all() [][]int {
	var all [][]int
	for blame := range d.tight {
		all = append(all, blame.list())
	}
	return all
}

// areAll reports whether sets are all tight blames, in order.
func (d desk) areAll(sets []set) bool {
	return slices.Equal(slices.Collect(d.tight), sets)
}

// forgotten returns the first tight blame that has none of the sets in it, and false if there is none.
func (d desk) forgotten(sets []set) (set, bool) {
	return kit.First(d.tight, func(blame set) bool { return !slices.ContainsFunc(sets, blame.has) })
}

// kind returns whether an inn is blamed, or ErrBlame if there is no blame.
func (d desk) kind(inn int) (int, api.Errno) {
	tight := slices.Collect(d.tight)
	with := 0
	for _, blame := range tight {
		if blame.inns[inn] {
			with++
		}
	}
	switch {
	case len(tight) == 0:
		return 0, api.ErrBlame
	case with == 0:
		return api.BlameNever, api.OK
	case with == len(tight):
		return api.BlameSure, api.OK
	}
	return api.BlameMay, api.OK
}
