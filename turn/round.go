package turn

import (
	"slices"

	"porringer/api"
	"porringer/kit"
)

// marks is which shops are marked.
type marks [api.MaxTurnShops]bool

// round is a guild, of which some shops are left, and the place where the mould is: before a shop, or behind the last one.
type round struct {
	guild
	left   marks
	before int
}

// newRound returns the round of a guild as it begins.
func newRound(g guild) round {
	r := round{guild: g}
	kit.Mark(r.left[:], g.all())
	return r
}

// waiting yields the shops that are left, the one that is next first.
func (r round) waiting(yield func(shop int) bool) {
	for passed := range r.shops {
		shop := (r.before + passed) % r.shops
		if r.left[shop] && !yield(shop) {
			return
		}
	}
}

// leave lets a shop that is left have the mould.
func (r *round) leave(shop int) {
	r.left[shop] = false
	r.before = shop + 1
}

// order returns the order of a code.
func (g guild) order(code []int) []int {
	var room [api.MaxTurnShops]int
	grown := room[:0:g.shops]
	for r := newRound(g); r.left != (marks{}); {
		waiting := slices.Collect(r.waiting)
		shop := waiting[code[len(grown)]]
		r.leave(shop)
		grown = append(grown, shop)
	}
	order := make([]int, len(grown))
	copy(order, grown)
	return order
}
