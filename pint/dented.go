package pint

import (
	"maps"
	"slices"

	"porringer/api"
	"porringer/kit"
)

// dented is a valid dented measure that stands at a tilt.
type dented struct {
	api.PintDented
	tilt int64
}

// request is a dented measure of which it is asked that it holds a number within a range.
type request struct {
	dented
	asked api.Range
}

// newDented returns a dented measure at a tilt, or the first error of both.
func newDented(d api.PintDented, tilt int64) (dented, api.Errno) {
	if e := CheckDented(d); e != api.OK {
		return dented{}, e
	}
	if !isTilt(tilt) {
		return dented{}, api.ErrRange
	}
	return dented{d, tilt}, api.OK
}

// newRequest returns the request of a dented measure, a tilt and a range, or the first error of them.
func newRequest(d api.PintDented, tilt int64, asked api.Range) (request, api.Errno) {
	one, e := newDented(d, tilt)
	if e != api.OK {
		return request{}, e
	}
	if asked.Lo > asked.Hi {
		return request{}, api.ErrRange
	}
	return request{one, asked}, api.OK
}

// truths yields the measures that truths make, in lexicographic order of their heights. It counts by how much the heights
// are above the least ones, which they are again behind the last truth.
func (d dented) truths(yield func(measure) bool) {
	var above heights
	for {
		if !yield(d.truth(above)) {
			return
		}
		d.raise(&above)
		if above == (heights{}) {
			return
		}
	}
}

// truth returns the measure with heights that are so much above the least ones.
func (d dented) truth(above heights) measure {
	m := measure{left: d.Left, right: d.Right, places: len(d.Heights), heights: above}
	for place, r := range d.Heights {
		m.heights[place] += r.Lo
	}
	return m
}

// raise makes heights those of the next truth: the last place that can be higher is, and all places behind it are at their
// least heights. Behind the last truth all places are.
func (d dented) raise(above *heights) {
	for place, r := range slices.Backward(d.Heights) {
		if r.Lo+above[place] < r.Hi {
			above[place]++
			clear(above[place+1:])
			return
		}
	}
	clear(above[:])
}

// held returns what the measure holds, by truths.
func (d dented) held() map[measure]int64 {
	held := map[measure]int64{}
	for truth := range d.truths {
		held[truth] = table{truth, d.tilt}.holds()
	}
	return held
}

// first returns the first truth, in lexicographic order, in which the measure holds a number that is meant, and false if
// there is none. It is the same one in whatever order the map has them.
func (d dented) first(meant func(number int64) bool) (measure, bool) {
	held := d.held()
	for truth, number := range held {
		if !meant(number) {
			delete(held, truth)
		}
	}
	return kit.Best(maps.Keys(held), func(one, other measure) bool {
		return slices.Compare(one.heights[:], other.heights[:]) < 0
	})
}

func (r request) isAsked(number int64) bool {
	return kit.Within(r.asked.Lo, r.asked.Hi, number)
}

// right returns a truth in which the measure holds a number that is asked for, and false if there is none.
func (r request) right() (measure, bool) {
	return r.first(r.isAsked)
}

// wrong returns a truth in which the measure holds a number that is not asked for, and false if there is none.
func (r request) wrong() (measure, bool) {
	return r.first(func(number int64) bool { return !r.isAsked(number) })
}

// seal returns whether the measure may be sealed.
func (r request) seal() int {
	_, may := r.right()
	_, mayNot := r.wrong()
	switch {
	case !may:
		return api.PintNever
	case mayNot:
		return api.PintMay
	}
	return api.PintAlways
}
