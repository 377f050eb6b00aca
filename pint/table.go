package pint

import (
	"porringer/api"
	"porringer/kit"
)

// leftSide is the number of the left side.
const leftSide = -1

// heights is a number for each place, and 0 for the places that a measure has not.
type heights [api.MaxPintPlaces]int64

// measure is a valid measure.
type measure struct {
	left, right int64
	places      int
	heights     heights
}

// table is a measure that stands at a tilt.
type table struct {
	measure
	tilt int64
}

// beating is a place that is beaten out, and what the measure then holds.
type beating struct {
	place int
	holds int64
}

func areHeights(numbers ...int64) bool {
	return kit.Within(0, api.MaxPintHeight, numbers...)
}

func isTilt(number int64) bool {
	return kit.Within(-api.MaxPintTilt, api.MaxPintTilt, number)
}

// newTable returns the table of a measure and a tilt, or the first error of both.
func newTable(m api.PintMeasure, tilt int64) (table, api.Errno) {
	if e := CheckMeasure(m); e != api.OK {
		return table{}, e
	}
	if !isTilt(tilt) {
		return table{}, api.ErrRange
	}
	t := table{measure{left: m.Left, right: m.Right, places: len(m.Heights)}, tilt}
	copy(t.heights[:], m.Heights)
	return t, api.OK
}

// newTableWith returns the table of a measure, a tilt and a place, or the first error of them.
func newTableWith(m api.PintMeasure, tilt int64, place int) (table, api.Errno) {
	t, e := newTable(m, tilt)
	if e != api.OK {
		return table{}, e
	}
	if !kit.Within(0, t.places-1, place) {
		return table{}, api.ErrArg
	}
	return t, api.OK
}

// handOver returns the heights of the places as a list of its own.
func (m measure) handOver() []int64 {
	list := make([]int64, m.places)
	copy(list, m.heights[:])
	return list
}

// rightSide returns the number of the right side.
func (m measure) rightSide() int {
	return m.places
}

// height returns that of a place, or of a side, at the tilt.
func (t table) height(number int) int64 {
	higher := t.tilt * int64(number)
	switch number {
	case leftSide:
		return t.left + higher
	case t.rightSide():
		return t.right + higher
	}
	return t.heights[number] + higher
}

// wall returns the place, or the side, of the greatest height on the way from a place to a side, both included; of several
// the nearest one to the place, since only what is higher takes the place of a wall.
func (t table) wall(place, side int) int {
	step := 1
	if side == api.PintLeft {
		step = -1
	}
	wall := place
search:
	for {
		for next := wall + step; kit.Within(leftSide, t.rightSide(), next); next += step {
			if t.height(next) > t.height(wall) {
				wall = next
				continue search
			}
		}
		return wall
	}
}

// greatest returns the greatest height from a place to a side, both included.
func (t table) greatest(place, side int) int64 {
	return t.height(t.wall(place, side))
}

// between returns the depth of a place that two walls prove.
func (t table) between(place, left, right int) int64 {
	return min(t.height(left), t.height(right)) - t.height(place)
}

// depth returns that of a place.
func (t table) depth(place int) int64 {
	return t.between(place, t.wall(place, api.PintLeft), t.wall(place, api.PintRight))
}

func (t table) isDry(place int) bool {
	return t.depth(place) == 0
}

// depths yields the depth of each place.
func (t table) depths(yield func(int64) bool) {
	for place := range t.places {
		if !yield(t.depth(place)) {
			return
		}
	}
}

// holds returns what the measure holds.
func (t table) holds() int64 {
	var sum int64
	for depth := range t.depths {
		sum += depth
	}
	return sum
}

// over returns over which side a place runs over that is not dry.
func (t table) over(place int) int {
	left, right := t.greatest(place, api.PintLeft), t.greatest(place, api.PintRight)
	switch {
	case left < right:
		return api.PintLeft
	case left > right:
		return api.PintRight
	}
	return api.PintBoth
}

// pools returns all pools, from the left to the right. Neighbours that are not dry have the same level: neither of them is
// a wall of the other one, so that both have the same walls.
func (t table) pools() [][2]int {
	var room [api.MaxPintPlaces][2]int
	pools := room[:0:t.places]
	for place := range t.places {
		last := len(pools) - 1
		switch {
		case t.isDry(place):
		case last >= 0 && pools[last][1] == place-1:
			pools[last][1] = place
		default:
			pools = append(pools, [2]int{place, place})
		}
	}
	list := make([][2]int, len(pools))
	copy(list, pools)
	return list
}

// beatings yields what the measure holds if the height of a place is 0, for each place.
func (t table) beatings(yield func(beating) bool) {
	for place := range t.places {
		beaten := t
		beaten.heights[place] = 0
		if !yield(beating{place, beaten.holds()}) {
			return
		}
	}
}
