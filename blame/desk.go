package blame

import (
	"slices"

	"porringer/api"
	"porringer/kit"
)

// desk is a valid book, with its hires as sets.
type desk struct {
	api.BlameBook
	hires []set
}

// newDesk returns the desk of a book, or the book's error.
func newDesk(b api.BlameBook) (desk, api.Errno) {
	if e := CheckBook(b); e != api.OK {
		return desk{}, e
	}
	return desk{b, newSets(b.Hires)}, api.OK
}

// newDeskWith returns the desk of a book, and a set of its inns, or the first error of both.
func newDeskWith(b api.BlameBook, list []int) (desk, set, api.Errno) {
	d, e := newDesk(b)
	if e != api.OK {
		return desk{}, set{}, e
	}
	if !kit.Indexes(list, d.Inns) {
		return desk{}, set{}, api.ErrRange
	}
	return d, newSet(list), api.OK
}

// newDeskWithSets returns the desk of a book, and a list of sets of its inns, or the first error of both.
func newDeskWithSets(b api.BlameBook, lists [][]int) (desk, []set, api.Errno) {
	d, e := newDesk(b)
	if e != api.OK {
		return desk{}, nil, e
	}
	if len(lists) > api.MaxBlameSets {
		return desk{}, nil, api.ErrMany
	}
	for _, list := range lists {
		if !kit.Indexes(list, d.Inns) {
			return desk{}, nil, api.ErrRange
		}
	}
	return d, newSets(lists), api.OK
}

// newSets returns the sets of lists.
func newSets(lists [][]int) []set {
	sets := make([]set, 0, len(lists))
	for _, list := range lists {
		sets = append(sets, newSet(list))
	}
	return sets
}

// check returns how many inns a blame has; or ErrBlame, and the first hire that a set does not blame.
func (d desk) check(s set) (int, api.Errno) {
	if missed := slices.IndexFunc(d.hires, s.misses); missed >= 0 {
		return missed, api.ErrBlame
	}
	return s.many, api.OK
}

func (d desk) isBlame(s set) bool {
	_, e := d.check(s)
	return e == api.OK
}

// spare returns the first inn that can be left out of a blame, and false if the blame is tight.
func (d desk) spare(blame set) (int, bool) {
search:
	for _, inn := range blame.list() {
		left := blame.without(inn)
		for _, hire := range d.hires {
			if left.misses(hire) {
				continue search
			}
		}
		return inn, true
	}
	return 0, false
}

// tightened returns the tight blame that is left of a blame, when the inns are left out from the greatest one on.
func (d desk) tightened(blame set) set {
	for _, inn := range slices.Backward(blame.list()) {
		if left := blame.without(inn); d.isBlame(left) {
			blame = left
		}
	}
	return blame
}

// areApart reports whether a hire has an inn, and none that one of a list has.
func (d desk) areApart(list []int, hire int) bool {
	one := d.hires[hire]
	for _, other := range list {
		if !one.misses(d.hires[other]) {
			return false
		}
	}
	return one.many > 0
}

// isIdle reports whether another hire makes a hire say nothing: a part of it, or an equal one before it.
func (d desk) isIdle(hire int) bool {
	one := d.hires[hire]
	for other, s := range d.hires {
		if one.has(s) && (s != one || other < hire) {
			return true
		}
	}
	return false
}

// core returns the book of the hires that are not idle.
func (d desk) core() api.BlameBook {
	core := api.BlameBook{Inns: d.Inns}
	for hire, s := range d.hires {
		if !d.isIdle(hire) {
			core.Hires = append(core.Hires, s.list())
		}
	}
	slices.SortFunc(core.Hires, slices.Compare)
	return core
}
