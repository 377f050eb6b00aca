package heat

import (
	"bytes"
	"maps"

	"porringer/api"
	"porringer/kit"
)

// plan returns the first plan, of those with the fewest waits, that has so many casts and surely works from a span; or the
// error of a number of casts, or ErrHeat. No such plan is too long: if a wait makes no heat of a span cooler none behind it
// does, so that less than MaxHeatDegrees waits stand before a cast.
func (o oven) plan(from span, casts int) ([]byte, api.Errno) {
	if !kit.Within(0, api.MaxHeatCasts, casts) {
		return nil, api.ErrArg
	}
	reached := o.reach(from, casts)
	for at := range reached {
		if at.casts < casts {
			delete(reached, at)
		}
	}
	plan, found := kit.Best(maps.Values(reached), isBefore)
	if !found {
		return nil, api.ErrHeat
	}
	return plan, api.OK
}

// isBefore reports whether one plan has fewer waits than another one with as many casts, or as many and comes before it.
func isBefore(one, other []byte) bool {
	if len(one) != len(other) {
		return len(one) < len(other)
	}
	return bytes.Compare(one, other) < 0
}

// reach returns a plan to each spot with up to so many casts to which one leads: the first one of the shortest. Plans grow
// in the order of their lengths, and those of one length in the order of their bytes, so that it is the one that comes
// first.
func (o oven) reach(from span, casts int) map[spot][]byte {
	start := spot{span: from}
	reached := map[spot][]byte{start: nil}
	open := []spot{start}
	for len(open) > 0 {
		at := open[0]
		open = open[1:]
		plan := reached[at]
		end := len(plan)
		for next := range o.steps(at) {
			if _, known := reached[next.to]; !known && next.to.casts <= casts {
				reached[next.to] = append(plan[:end:end], next.letter)
				open = append(open, next.to)
			}
		}
	}
	return reached
}
