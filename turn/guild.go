package turn

import (
	"iter"

	"porringer/api"
	"porringer/kit"
)

// guild is so many shops, of which there is one at least.
type guild struct {
	shops int
}

// newGuild returns the guild of so many shops, or ErrMany.
func newGuild(shops int) (guild, api.Errno) {
	if !kit.Within(1, api.MaxTurnShops, shops) {
		return guild{}, api.ErrMany
	}
	return guild{shops}, api.OK
}

// newGuildBy returns the guild of so many shops, or the first error of it and of a step.
func newGuildBy(shops int, step int64) (guild, api.Errno) {
	g, e := newGuild(shops)
	if e != api.OK {
		return guild{}, e
	}
	if !kit.Within(1, api.MaxTurnStep, step) {
		return guild{}, api.ErrArg
	}
	return g, api.OK
}

// has reports whether all these are shops of the guild.
func (g guild) has(shops ...int) bool {
	return kit.Within(0, g.shops-1, shops...)
}

// all returns all shops.
func (g guild) all() []int {
	var all []int
	for shop := range g.shops {
		all = append(all, shop)
	}
	return all
}

// leftAt returns how many shops are left at a place of an order.
func (g guild) leftAt(at int) int {
	return g.shops - at
}

// period returns the period of beginnings that have so many places.
func (g guild) period(places int) int64 {
	period := int64(1)
	for at := range places {
		left := int64(g.leftAt(at))
		period *= left / kit.Divisor(period, left)
	}
	return period
}

// code returns the code by a step.
func (g guild) code(step int64) []int {
	var code []int
	for at := range g.shops {
		code = append(code, rest(step, g.leftAt(at)))
	}
	return code
}

// last returns the last shop by a step.
func (g guild) last(step int64) int {
	order := g.order(g.code(step))
	return order[g.shops-1]
}

// rest returns the number of a code by a step, where so many shops are left.
func rest(step int64, left int) int {
	return int((step - 1) % int64(left))
}

// steps yields all steps up to a period: those that are greater make the same orders again.
func steps(period int64) iter.Seq[int64] {
	return func(yield func(int64) bool) {
		for step := int64(1); step <= period; step++ {
			if !yield(step) {
				return
			}
		}
	}
}
