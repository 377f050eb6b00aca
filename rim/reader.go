package rim

import (
	"slices"

	"porringer/api"
)

// tally is how often each touch stands.
type tally [api.MaxRimKinds]int

// ring is a valid rim, or a row, and the number of its kinds.
type ring struct {
	kinds   int
	touches []int
}

// reader is a ring with the tally of its touches.
type reader struct {
	ring
	tally tally
}

// reading is the touches of a ring that follow from an index on.
type reading struct {
	from    int
	touches []int
}

// newReader returns the reader of a rim, or the rim's error.
func newReader(kinds int, rim []int) (reader, api.Errno) {
	if e := CheckRim(kinds, rim); e != api.OK {
		return reader{}, e
	}
	r := reader{ring: ring{kinds, make([]int, len(rim))}}
	copy(r.touches, rim)
	for _, touch := range r.touches {
		r.tally[touch]++
	}
	return r, api.OK
}

// at returns the touch that is so many after the first one, round the rim.
func (r ring) at(index int) int {
	return r.touches[index%len(r.touches)]
}

// turned returns the rim turned by a number, in memory of its own.
func (r ring) turned(by int) reading {
	return reading{by, slices.Concat(r.touches[by:], r.touches[:by])}
}

// turns yields the rim turned by each number, in their order.
func (r ring) turns(yield func(reading) bool) {
	for by := range r.touches {
		if !yield(r.turned(by)) {
			return
		}
	}
}

func less(one, other reading) bool {
	return slices.Compare(one.touches, other.touches) < 0
}

// period returns the period of the rim.
func (r ring) period() int {
	for turn := range r.turns {
		if turn.from > 0 && slices.Equal(turn.touches, r.touches) {
			return turn.from
		}
	}
	return len(r.touches)
}

// shift returns the least number by which the rim turned is another one, and false if there is none. Rims with different
// tallies need not be turned to tell that they are not the same.
func (r reader) shift(other reader) (int, bool) {
	if r.tally != other.tally {
		return 0, false
	}
	for turn := range r.turns {
		if slices.Equal(turn.touches, other.touches) {
			return turn.from, true
		}
	}
	return 0, false
}

// find returns the least index from which on a list stands round the rim, and false if it stands nowhere.
func (r ring) find(list []int) (int, bool) {
search:
	for at := range r.touches {
		for i, touch := range list {
			if r.at(at+i) != touch {
				continue search
			}
		}
		return at, true
	}
	return 0, false
}
