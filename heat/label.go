package heat

import (
	"porringer/api"
	"porringer/kit"
)

// anyNumber is the label of a heat from which plans have any number of casts.
const anyNumber = -1

// numbers is one for each heat, and whatever for those that the mould has not.
type numbers [api.MaxHeatDegrees]int

// labels returns for each heat the most casts of plans from it, or anyNumber. The plans of each round are longer by a letter
// than those of the one before it. Casts are counted only up to endless, which no heat has that has a greatest number.
func (o oven) labels() []int {
	endless := o.castHeats() + 1
	var most, before numbers
	for changed := true; changed; changed = most != before {
		before = most
		clear(most[:])
		for heat := range o.Casts {
			for next := range o.steps(spot{span: only(heat)}) {
				most[heat] = max(most[heat], min(before[next.to.low]+next.to.casts, endless))
			}
		}
	}
	labels := make([]int, len(o.Casts))
	copy(labels, most[:])
	for heat, label := range labels {
		if label == endless {
			labels[heat] = anyNumber
		}
	}
	return labels
}

// areRight reports whether labels, one for each heat, are right.
func (o oven) areRight(labels []int) bool {
	for heat, label := range labels {
		if label == anyNumber {
			continue
		}
		for next := range o.steps(spot{span: only(heat)}) {
			if !kit.Within(0, label-next.to.casts, labels[next.to.low]) {
				return false
			}
		}
	}
	return true
}
