package rim

import (
	"porringer/api"
	"porringer/kit"
)

// rowList is a list with as many touches as the length of a row.
type rowList struct {
	many    int
	touches [api.MaxRimLength]int
}

// rowTouches returns how many touches a row of a length has, or the error of kinds and length.
func rowTouches(kinds, length int) (int, api.Errno) {
	if e := checkKinds(kinds); e != api.OK {
		return 0, e
	}
	if !kit.Within(1, api.MaxRimLength, length) || power(kinds, length) > api.MaxRimTouches {
		return 0, api.ErrMany
	}
	return int(power(kinds, length)), api.OK
}

// rowLists returns all lists of a length.
func rowLists(kinds, length int) map[rowList]bool {
	all := map[rowList]bool{}
	shorter := func(list []int, _ int) bool { return len(list) < length }
	for list := range kit.Grown(kinds, shorter) {
		if len(list) == length {
			l := rowList{many: length}
			copy(l.touches[:], list)
			all[l] = true
		}
	}
	return all
}

// rowListAt returns the list of a length that stands from an index on. A rim of one kind is shorter than the list may be,
// which then goes round it more than once.
func (r ring) rowListAt(index, length int) rowList {
	l := rowList{many: length}
	for i := range length {
		l.touches[i] = r.at(index + i)
	}
	return l
}

// isRow reports whether each list of a length stands round the rim. It then stands at just one index, as there are as many
// touches as lists.
func (r ring) isRow(length int) bool {
	missing := rowLists(r.kinds, length)
	for index := range r.touches {
		delete(missing, r.rowListAt(index, length))
	}
	return len(missing) == 0
}
