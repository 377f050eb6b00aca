package blame

import (
	"porringer/api"
	"porringer/kit"
)

// inns is which inns are marked.
type inns [api.MaxBlameInns]bool

// set is a set of inns, or a hire, which is one too; with how many inns it has.
type set struct {
	inns
	many int
}

// newSet returns the set of a strictly increasing list of inns.
func newSet(list []int) set {
	var s set
	s.mark(list)
	return s
}

// mark makes the set that of another list, whatever it was before.
func (s *set) mark(list []int) {
	kit.Mark(s.inns[:], list)
	s.many = len(list)
}

// list returns the inns as a list of its own, without room behind it.
func (s set) list() []int {
	var room [api.MaxBlameInns]int
	grown := room[:0:s.many]
	for inn, marked := range s.inns {
		if marked {
			grown = append(grown, inn)
		}
	}
	list := make([]int, s.many)
	copy(list, grown)
	return list
}

// common returns the inns that both have.
func (i inns) common(other inns) inns {
	for inn, marked := range other {
		i[inn] = i[inn] && marked
	}
	return i
}

// has reports whether another set is in the set, as a part or as the whole.
func (s set) has(other set) bool {
	return s.common(other.inns) == other.inns
}

// misses reports whether the set does not blame a hire.
func (s set) misses(hire set) bool {
	return s.common(hire.inns) == inns{}
}

// without returns the set without an inn that it has.
func (s set) without(inn int) set {
	s.inns[inn] = false
	s.many--
	return s
}

func smaller(one, other set) bool {
	return one.many < other.many
}
