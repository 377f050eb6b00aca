package stone

import (
	"iter"

	"porringer/api"
	"porringer/kit"
)

// stock is how many weights there are of each kind.
type stock [api.MaxStoneKinds]int64

// set is a valid one: the weights of its kinds, how many there are of each, and its sum.
type set struct {
	weights []int64
	many    stock
	sum     int64
}

// newSet returns the set of kinds, or its first error.
func newSet(kinds []api.StoneKind) (set, api.Errno) {
	if !kit.Within(1, api.MaxStoneKinds, len(kinds)) {
		return set{}, api.ErrMany
	}
	for _, kind := range kinds {
		if !kit.Within(1, api.MaxStoneSum, kind.Weight, kind.Many) {
			return set{}, api.ErrRange
		}
	}
	var s set
	for i, kind := range kinds {
		if i > 0 && kind.Weight <= s.weights[i-1] {
			return set{}, api.ErrRule
		}
		s.weights = append(s.weights, kind.Weight)
		s.many[i] = kind.Many
		s.sum += kind.Weight * kind.Many
	}
	if s.sum > api.MaxStoneSum {
		return set{}, api.ErrOver
	}
	return s, api.OK
}

// pans is on how many pans weights can lie: 1 or 2.
type pans int64

// newPans returns so many pans, or ErrArg.
func newPans(many int) (pans, api.Errno) {
	if !kit.Within(1, 2, many) {
		return 0, api.ErrArg
	}
	return pans(many), api.OK
}

// newPansFor returns so many pans, or the first error of them and of an amount, which is from 1 to most.
func newPansFor(many int, amount, most int64) (pans, api.Errno) {
	p, e := newPans(many)
	if e != api.OK {
		return 0, e
	}
	if !kit.Within(1, most, amount) {
		return 0, api.ErrRange
	}
	return p, api.OK
}

// lowest returns the least number that can lie on the pans, if most is the greatest one.
func (p pans) lowest(most int64) int64 {
	return most - int64(p)*most
}

// size returns how many numbers there are from the lowest one to most.
func (p pans) size(most int64) int64 {
	return int64(p)*most + 1
}

// span yields the numbers from the lowest one to most.
func (p pans) span(most int64) iter.Seq[int64] {
	return between(p.lowest(most), most)
}

// between yields the numbers from lo to hi.
func between(lo, hi int64) iter.Seq[int64] {
	return func(yield func(int64) bool) {
		for number := lo; number <= hi; number++ {
			if !yield(number) {
				return
			}
		}
	}
}

// scale is a set, and the pans on which its weights can lie.
type scale struct {
	set
	pans
}

// newScale returns the scale of a set and of so many pans, or the first error of both.
func newScale(kinds []api.StoneKind, many int) (scale, api.Errno) {
	s, e := newSet(kinds)
	if e != api.OK {
		return scale{}, e
	}
	p, e := newPans(many)
	if e != api.OK {
		return scale{}, e
	}
	return scale{s, p}, api.OK
}

// newScaleFor returns the scale of a set and of so many pans, or the first error of both and of an amount.
func newScaleFor(kinds []api.StoneKind, many int, amount int64) (scale, api.Errno) {
	s, e := newScale(kinds, many)
	if e != api.OK {
		return scale{}, e
	}
	if !kit.Within(0, api.MaxStoneSum, amount) {
		return scale{}, api.ErrRange
	}
	return s, api.OK
}
