package rod

import (
	"porringer/api"
	"porringer/kit"
)

// plates is which plates are marked: those of a rod.
type plates [api.MaxRodPlates]bool

// newPlates returns the plates of a strictly increasing list.
func newPlates(list []int) plates {
	var p plates
	kit.Mark(p[:], list)
	return p
}

// result returns 1 if the rod has a plate of a case, and 0 if not.
func (p plates) result(bad []int) int {
	var found plates
	for _, plate := range bad {
		found[plate] = p[plate]
	}
	if found == (plates{}) {
		return 0
	}
	return 1
}
