package alloy

import (
	"porringer/api"
	"porringer/kit"
)

// What the columns of sums are of.
const (
	partsColumn = iota
	priceColumn
	leadColumn
	copperColumn
	columns // how many there are
)

// sums is what a mixture has: parts, and price, lead and copper, each multiplied by the parts that have it.
type sums [columns]int64

// mixture is the parts of a mixture, with 0 for the metals that the shop has not.
type mixture [api.MaxAlloyMetals]int64

// stock is what one part of each metal has, with its lead and its copper each at one end of what they can be.
type stock struct {
	units []sums
}

// pot is a stock that is mixed for a touch: its metals have their bad lead and their good copper.
type pot struct {
	stock
	asked sums // what one part has to have: no more lead, no less copper
}

func validMetal(m api.AlloyMetal) bool {
	return kit.Within(0, api.MaxAlloyPrice, m.Price) && validContent(m.Lead) && validContent(m.Copper)
}

func validContent(r api.Range) bool {
	return kit.Within(0, api.MaxAlloyContent, r.Lo, r.Hi) && r.Lo <= r.Hi
}

// newStock returns the stock of valid metals.
func newStock(metals []api.AlloyMetal, mostLead, mostCopper bool) stock {
	units := make([]sums, 0, len(metals))
	for _, m := range metals {
		units = append(units, sums{1, m.Price, end(m.Lead, mostLead), end(m.Copper, mostCopper)})
	}
	return stock{units}
}

func end(r api.Range, most bool) int64 {
	if most {
		return r.Hi
	}
	return r.Lo
}

// newPot returns the pot of metals and a touch, or the first error of both.
func newPot(metals []api.AlloyMetal, touch api.AlloyTouch, sure bool) (pot, api.Errno) {
	if e := CheckMetals(metals); e != api.OK {
		return pot{}, e
	}
	if e := CheckTouch(touch); e != api.OK {
		return pot{}, e
	}
	return pot{newStock(metals, sure, !sure), sums{1, 0, touch.Lead, touch.Copper}}, api.OK
}

// checkMixture returns the error of a mixture.
func (s stock) checkMixture(parts []int64) api.Errno {
	if len(parts) != len(s.units) {
		return api.ErrEqual
	}
	if !kit.Within(0, api.MaxAlloyPart, parts...) {
		return api.ErrRange
	}
	var total sums
	s.weigh(takeOver(parts), &total)
	if total == (sums{}) {
		return api.ErrArg
	}
	return api.OK
}

// takeOver returns parts as a mixture of its own.
func takeOver(parts []int64) mixture {
	var m mixture
	copy(m[:], parts)
	return m
}

// handOver returns the parts of the first n metals as a list of its own.
func handOver(m mixture, n int) []int64 {
	parts := make([]int64, n)
	copy(parts, m[:])
	return parts
}

// weigh makes total what a mixture has; it may hold what another one had.
func (s stock) weigh(m mixture, total *sums) {
	clear(total[:])
	for i, unit := range s.units {
		for column, n := range unit {
			total[column] += m[i] * n
		}
	}
}

func (s stock) cost(m mixture) api.Ratio {
	var total sums
	s.weigh(m, &total)
	return kit.Ratio(total[priceColumn], total[partsColumn])
}

func (s stock) share(m mixture, metal int) api.Ratio {
	var total sums
	s.weigh(m, &total)
	return kit.Ratio(m[metal], total[partsColumn])
}

func (s stock) cheaper(one, other mixture) bool {
	return kit.Below(s.cost(one), s.cost(other))
}

// deserves reports whether a mixture deserves the touch.
func (p pot) deserves(m mixture) bool {
	var total sums
	p.weigh(m, &total)
	parts := total[partsColumn]
	return total[leadColumn] <= parts*p.asked[leadColumn] && total[copperColumn] >= parts*p.asked[copperColumn]
}

// possible reports whether some mixture deserves the touch.
func (p pot) possible() bool {
	for range p.corners {
		return true
	}
	return false
}
