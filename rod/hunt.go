package rod

import (
	"math/bits"

	"porringer/api"
	"porringer/kit"
)

// unknown is what a group is said to need before it is known: more than any group needs, since a rod for each plate tells
// all.
const unknown = api.MaxRodNeeded + 1

// group is a set of cases: a bit for each of those that were left when the hunt began, and how many there are.
type group struct {
	bits uint64
	many int
}

// newGroup returns the group of the bits.
func newGroup(set uint64) group {
	return group{set, bits.OnesCount64(set)}
}

// trial is a rod that may be cast, and the set of the cases in which its result is 1.
type trial struct {
	rod []int
	bad uint64
}

// parts returns the cases of a group with each result of a trial, perhaps none.
func (t trial) parts(g group) [2]group {
	return [2]group{newGroup(g.bits &^ t.bad), newGroup(g.bits & t.bad)}
}

// hunt is the search for which case it is, of those that are left: with all rods, and with how many of them are needed for
// each group that they can leave. Those that are simple, of one case or none, are not among the groups: they need none.
type hunt struct {
	left   group
	trials []trial
	needs  map[group]int
}

// newHunt returns the hunt behind a plan, or the first error of its arguments.
func newHunt(b api.RodBook, plan [][]int, results []int) (hunt, api.Errno) {
	d, e := newBenchSeen(b, plan, results)
	if e != api.OK {
		return hunt{}, e
	}
	if d.Plates > api.MaxRodNeeded {
		return hunt{}, api.ErrMany
	}
	left, e := d.told(results)
	if e != api.OK {
		return hunt{}, e
	}
	h := hunt{newGroup(1<<len(left) - 1), d.trials(left), map[group]int{}}
	h.spread(h.left)
	h.settle()
	return h, api.OK
}

// trials returns all rods, with what they tell of some cases.
func (d bench) trials(cases [][]int) []trial {
	var trials []trial
	var rod plates
	for list := range kit.Lists(d.Plates, func([]int, int) bool { return true }) {
		kit.Mark(rod[:], list)
		trials = append(trials, trial{list, setOf(cases, rod.result)})
	}
	return trials
}

// setOf returns the set of the cases in which a result is 1.
func setOf(cases [][]int, result func(bad []int) int) uint64 {
	var set uint64
	for i, bad := range cases {
		set |= uint64(result(bad)) << i
	}
	return set
}

// spread lists a group among the needs, and all that rods leave of it.
func (h hunt) spread(g group) {
	if _, known := h.needs[g]; known {
		return
	}
	h.needs[g] = unknown
	for _, t := range h.trials {
		for _, part := range t.parts(g) {
			h.spread(part)
		}
	}
}

// settle finds what groups need, until it is known for all cases that are left: first those that need one rod, then those
// that need two, and so on. Within a round it does not matter which group comes first, since those that need just as many
// rods as it counts do not help.
func (h hunt) settle() {
	for g := range h.needs {
		if g.many <= 1 {
			delete(h.needs, g)
		}
	}
	for many := 1; h.needs[h.left] == unknown; many++ {
		for g, needed := range h.needs {
			if needed < unknown {
				continue
			}
			if _, found := h.rodFor(g, many); found {
				h.needs[g] = many
			}
		}
	}
}

// rodFor returns the first rod that leaves of a group only what needs less than so many rods, and false if there is none.
func (h hunt) rodFor(g group, many int) ([]int, bool) {
search:
	for _, t := range h.trials {
		for _, part := range t.parts(g) {
			if h.needs[part] >= many {
				continue search
			}
		}
		return t.rod, true
	}
	return nil, false
}
