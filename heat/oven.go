package heat

import (
	"iter"
	"slices"

	"porringer/api"
	"porringer/kit"
)

// The letters of a plan. The order of their bytes is the one in which steps are yielded.
const (
	castLetter = 'c'
	waitLetter = 'w'
)

// span is the heats that a mould may have, from the least to the greatest one. By the same step a hotter heat becomes no
// cooler one, and bounds have no gap: so what is possible at both is possible at all between them, which stay between.
type span struct {
	low, high int
}

// spot is what a plan leads to: the heats that the mould may have then, and how many casts there were.
type spot struct {
	span
	casts int
}

// step is a letter of a plan, and the spot behind it.
type step struct {
	letter byte
	to     spot
}

// oven is a valid mould.
type oven struct {
	api.HeatMould
}

// newOven returns the oven of a mould, or the mould's error.
func newOven(m api.HeatMould) (oven, api.Errno) {
	if e := CheckMould(m); e != api.OK {
		return oven{}, e
	}
	return oven{m}, api.OK
}

// newOvenAt returns the oven of a mould with a heat, or the first error of both.
func newOvenAt(m api.HeatMould, from int) (oven, api.Errno) {
	o, e := newOven(m)
	if e != api.OK {
		return oven{}, e
	}
	if !kit.Within(0, len(o.Casts)-1, from) {
		return oven{}, api.ErrArg
	}
	return o, api.OK
}

// newOvenWithin returns the oven of a mould, and a range of its heats, or the first error of both.
func newOvenWithin(m api.HeatMould, from api.Range) (oven, span, api.Errno) {
	o, e := newOven(m)
	if e != api.OK {
		return oven{}, span{}, e
	}
	if from.Lo > from.Hi || !kit.Within(0, int64(len(o.Casts)-1), from.Lo, from.Hi) {
		return oven{}, span{}, api.ErrRange
	}
	return o, span{int(from.Lo), int(from.Hi)}, api.OK
}

// only returns a single heat as a span.
func only(heat int) span {
	return span{heat, heat}
}

func (o oven) canCast(heat int) bool {
	return kit.Within(o.Lo, o.Hi, heat)
}

// castHeats returns at how many heats a cast is possible. A plan with more casts has two of them at the same heat, so that
// what is between them can be repeated.
func (o oven) castHeats() int {
	return o.Hi - o.Lo + 1
}

// steps yields the steps that are possible at a spot, in the order of their letters.
func (o oven) steps(at spot) iter.Seq[step] {
	return func(yield func(step) bool) {
		if o.canCast(at.low) && o.canCast(at.high) {
			hotter := span{o.Casts[at.low], o.Casts[at.high]}
			if !yield(step{castLetter, spot{hotter, at.casts + 1}}) {
				return
			}
		}
		cooler := span{o.Waits[at.low], o.Waits[at.high]}
		yield(step{waitLetter, spot{cooler, at.casts}})
	}
}

// take returns the spot behind a letter, and false if its step is not possible.
func (o oven) take(at spot, letter byte) (spot, bool) {
	taken, found := kit.First(o.steps(at), func(one step) bool { return one.letter == letter })
	return taken.to, found
}

// newPlan returns the letters of a text as a plan of its own, or ErrLong or ErrForm.
func newPlan(text string) ([]byte, api.Errno) {
	if len(text) > api.MaxHeatPlan {
		return nil, api.ErrLong
	}
	plan := make([]byte, len(text))
	copy(plan, text)
	if slices.ContainsFunc(plan, func(letter byte) bool { return letter != castLetter && letter != waitLetter }) {
		return nil, api.ErrForm
	}
	return plan, api.OK
}

// run returns the spot behind a plan, or the error of the plan.
func (o oven) run(from span, text string) (spot, api.Errno) {
	plan, e := newPlan(text)
	if e != api.OK {
		return spot{}, e
	}
	at, found := spot{span: from}, true
	for _, letter := range plan {
		if at, found = o.take(at, letter); !found {
			return spot{}, api.ErrHeat
		}
	}
	return at, api.OK
}
