package heat

import (
	"iter"

	"porringer/api"
	"porringer/kit"
)

// never is the number of waits with which a heat is not reached: more than any number that is counted here.
const never = api.MaxHeatPlan

// rate returns waits by casts.
func rate(waits, casts int) api.Ratio {
	return kit.Ratio(int64(waits), int64(casts))
}

// round returns a round from a heat, or ErrHeat: the plan between two casts at the same heat, and what is before it.
func (o oven) round(from int) (string, string, api.Errno) {
	plan, e := o.plan(only(from), o.castHeats()+1)
	if e != api.OK {
		return "", "", e
	}
	casts := map[int]int{}
	at := spot{span: only(from)}
	for i, letter := range plan {
		if letter == castLetter {
			if before, found := casts[at.low]; found {
				return string(plan[:before]), string(plan[before:i]), api.OK
			}
			casts[at.low] = i
		}
		at, _ = o.take(at, letter)
	}
	return "", "", api.ErrHeat
}

// nowhere returns the waits with which no heat is reached.
func nowhere() numbers {
	var waits numbers
	for heat := range waits {
		waits[heat] = never
	}
	return waits
}

// after returns the least waits with which heats are reached behind a step more, which is possible at some heats, and is so
// many waits itself.
func (n numbers) after(becomes []int, possible func(heat int) bool, waits int) numbers {
	next := nowhere()
	for heat, to := range becomes {
		if possible(heat) {
			next[to] = min(next[to], n[heat]+waits)
		}
	}
	return next
}

// cooled returns the least waits with which heats are reached if any number of waits may follow.
func (o oven) cooled(waits numbers) numbers {
	always := func(int) bool { return true }
	for {
		before := waits
		for heat, more := range waits.after(o.Waits, always, 1) {
			waits[heat] = min(waits[heat], more)
		}
		if waits == before {
			return waits
		}
	}
}

// leastWaits yields the least waits with which all heats are reached from one, by plans with no cast, one, and so on, up to
// as many as can be at different heats.
func (o oven) leastWaits(from int) iter.Seq2[int, numbers] {
	return func(yield func(int, numbers) bool) {
		waits := nowhere()
		waits[from] = 0
		for casts := range o.castHeats() + 1 {
			waits = o.cooled(waits)
			if !yield(casts, waits) {
				return
			}
			waits = waits.after(o.Casts, o.canCast, 0)
		}
	}
}

// heats yields all heats that plans from one lead to.
func (o oven) heats(from int) iter.Seq[int] {
	return func(yield func(int) bool) {
	search:
		for heat := range o.Casts {
			for _, waits := range o.leastWaits(from) {
				if waits[heat] == never {
					continue
				}
				if !yield(heat) {
					return
				}
				continue search
			}
		}
	}
}

// rates yields those of rounds from a heat, of which the least one is its rate: of all plans that are repeated those that
// come to no heat twice are enough, since a longer one is made of such ones, and is no better than the best of them.
func (o oven) rates(from int) iter.Seq[api.Ratio] {
	return func(yield func(api.Ratio) bool) {
		for heat := range o.heats(from) {
			for casts, waits := range o.leastWaits(heat) {
				if casts > 0 && waits[heat] < never && !yield(rate(waits[heat], casts)) {
					return
				}
			}
		}
	}
}
