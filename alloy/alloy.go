// Package alloy is layer 1: mixtures of metals, the cheapest one that deserves a touch, and weights as proof of it.
package alloy

import (
	"porringer/api"
	"porringer/kit"
)

// CheckMetals reports whether metals are valid. (P1.1)
func CheckMetals(metals []api.AlloyMetal) api.Errno {
	if !kit.Within(1, api.MaxAlloyMetals, len(metals)) {
		return api.ErrMany
	}
	for _, m := range metals {
		if !validMetal(m) {
			return api.ErrRange
		}
	}
	return api.OK
}

// CheckTouch reports whether a touch is valid. (P1.1)
func CheckTouch(touch api.AlloyTouch) api.Errno {
	if !kit.Within(0, api.MaxAlloyContent, touch.Lead, touch.Copper) {
		return api.ErrRange
	}
	return api.OK
}

// Cost returns the cost of a mixture. (P1.2)
func Cost(metals []api.AlloyMetal, mixture []int64) (api.Ratio, api.Errno) {
	if e := CheckMetals(metals); e != api.OK {
		return api.Ratio{}, e
	}
	s := newStock(metals, true, true)
	if e := s.checkMixture(mixture); e != api.OK {
		return api.Ratio{}, e
	}
	return s.cost(takeOver(mixture)), api.OK
}

// Ends returns how much lead, or copper, a mixture has at least and at most. (P1.2)
func Ends(metals []api.AlloyMetal, mixture []int64, copper bool) (api.Ratio, api.Ratio, api.Errno) {
	if e := CheckMetals(metals); e != api.OK {
		return api.Ratio{}, api.Ratio{}, e
	}
	least, most := newStock(metals, false, false), newStock(metals, true, true)
	if e := least.checkMixture(mixture); e != api.OK {
		return api.Ratio{}, api.Ratio{}, e
	}
	column := leadColumn
	if copper {
		column = copperColumn
	}
	var total sums
	var ends [2]api.Ratio
	for i, s := range [2]stock{least, most} {
		s.weigh(takeOver(mixture), &total)
		ends[i] = kit.Ratio(total[column], total[partsColumn])
	}
	return ends[0], ends[1], api.OK
}

// Deserves reports whether a mixture deserves a touch. (P1.3)
func Deserves(metals []api.AlloyMetal, touch api.AlloyTouch, sure bool, mixture []int64) api.Errno {
	melt, e := newPot(metals, touch, sure)
	if e != api.OK {
		return e
	}
	if e := melt.checkMixture(mixture); e != api.OK {
		return e
	}
	if !melt.deserves(takeOver(mixture)) {
		return api.ErrAlloy
	}
	return api.OK
}

// Least returns the least cost of the mixtures that deserve a touch. (P1.4)
func Least(metals []api.AlloyMetal, touch api.AlloyTouch, sure bool) (api.Ratio, api.Errno) {
	melt, e := newPot(metals, touch, sure)
	if e != api.OK {
		return api.Ratio{}, e
	}
	m, found := kit.Best(melt.corners, melt.cheaper)
	if !found {
		return api.Ratio{}, api.ErrAlloy
	}
	return melt.cost(m), api.OK
}

// Cheapest returns a cheapest mixture of those that deserve a touch. (P1.4)
func Cheapest(metals []api.AlloyMetal, touch api.AlloyTouch, sure bool) ([]int64, api.Errno) {
	melt, e := newPot(metals, touch, sure)
	if e != api.OK {
		return nil, e
	}
	m, found := kit.Best(melt.corners, melt.cheaper)
	if !found {
		return nil, api.ErrAlloy
	}
	return handOver(m, len(metals)), api.OK
}

// CheckProof returns the cost that a proof proves. (P1.5)
func CheckProof(metals []api.AlloyMetal, touch api.AlloyTouch, sure bool, p api.AlloyProof) (api.Ratio, api.Errno) {
	melt, e := newPot(metals, touch, sure)
	if e != api.OK {
		return api.Ratio{}, e
	}
	if !kit.Within(1, api.MaxAlloyDen, p.Den) || !validWeights(p) {
		return api.Ratio{}, api.ErrRange
	}
	if !melt.holds(p) {
		return api.Ratio{}, api.ErrSum
	}
	return kit.Ratio(melt.value(p), p.Den), api.OK
}

// Proof returns a proof of the least cost. (P1.5)
func Proof(metals []api.AlloyMetal, touch api.AlloyTouch, sure bool) (api.AlloyProof, api.Errno) {
	melt, e := newPot(metals, touch, sure)
	if e != api.OK {
		return api.AlloyProof{}, e
	}
	if !melt.possible() {
		return api.AlloyProof{}, api.ErrAlloy
	}
	return melt.costProof(), api.OK
}

// CheckNever reports whether a proof proves that no mixture deserves a touch. (P1.6)
func CheckNever(metals []api.AlloyMetal, touch api.AlloyTouch, sure bool, p api.AlloyProof) api.Errno {
	melt, e := newPot(metals, touch, sure)
	if e != api.OK {
		return e
	}
	if p.Den != 0 || !validWeights(p) {
		return api.ErrRange
	}
	if !melt.holds(p) || melt.value(p) <= 0 {
		return api.ErrSum
	}
	return api.OK
}

// Never returns a proof that no mixture deserves a touch. (P1.6)
func Never(metals []api.AlloyMetal, touch api.AlloyTouch, sure bool) (api.AlloyProof, api.Errno) {
	melt, e := newPot(metals, touch, sure)
	if e != api.OK {
		return api.AlloyProof{}, e
	}
	if melt.possible() {
		return api.AlloyProof{}, api.ErrNone
	}
	return melt.neverProof(), api.OK
}

// Share returns the least and the greatest share of a metal in the mixtures that deserve a touch. (P1.7)
func Share(metals []api.AlloyMetal, touch api.AlloyTouch, sure bool, metal int) (api.Ratio, api.Ratio, api.Errno) {
	melt, e := newPot(metals, touch, sure)
	if e != api.OK {
		return api.Ratio{}, api.Ratio{}, e
	}
	if !kit.Within(0, len(metals)-1, metal) {
		return api.Ratio{}, api.Ratio{}, api.ErrArg
	}
	least, found := kit.Best(melt.corners, func(one, other mixture) bool {
		return kit.Below(melt.share(one, metal), melt.share(other, metal))
	})
	if !found {
		return api.Ratio{}, api.Ratio{}, api.ErrAlloy
	}
	most, _ := kit.Best(melt.corners, func(one, other mixture) bool {
		return kit.Below(melt.share(other, metal), melt.share(one, metal))
	})
	return melt.share(least, metal), melt.share(most, metal), api.OK
}
