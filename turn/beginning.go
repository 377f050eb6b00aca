package turn

import (
	"slices"

	"porringer/api"
	"porringer/kit"
)

// beginning is a valid one of a guild, and the beginning of the code that is its own.
type beginning struct {
	guild
	code []int
}

// newBeginning returns a beginning of so many shops, or the first error of both.
func newBeginning(shops int, begun []int) (beginning, api.Errno) {
	g, e := newGuild(shops)
	switch {
	case e != api.OK:
		return beginning{}, e
	case len(begun) > shops:
		return beginning{}, api.ErrMany
	case !g.has(begun...):
		return beginning{}, api.ErrRange
	}
	b := beginning{guild: g}
	r := newRound(g)
	for _, shop := range begun {
		passed := slices.Index(slices.Collect(r.waiting), shop)
		if passed < 0 {
			return beginning{}, api.ErrRule
		}
		b.code = append(b.code, passed)
		r.leave(shop)
	}
	return b, api.OK
}

// place is one of a beginning, and how many shops were left there.
type place struct {
	at, left int
}

// place returns the place of a beginning with an index.
func (b beginning) place(at int) place {
	return place{at, b.leftAt(at)}
}

// places yields the places of a beginning, in order.
func (b beginning) places(yield func(place) bool) {
	for at := range b.code {
		if !yield(b.place(at)) {
			return
		}
	}
}

// madeBy reports whether a step makes the beginning.
func (b beginning) madeBy(step int64) bool {
	for p := range b.places {
		if rest(step, p.left) != b.code[p.at] {
			return false
		}
	}
	return true
}

// find returns the least step that makes the beginning, with its period, and false if no step does.
func (b beginning) find() (int64, int64, bool) {
	period := b.period(len(b.code))
	step, found := kit.First(steps(period), b.madeBy)
	return step, period, found
}

// sayings is what places say, as the rest by the number of shops that were left there.
type sayings map[place]int

// said returns what all places of a beginning say.
func (b beginning) said() sayings {
	said := sayings{}
	for p := range b.places {
		said[p] = b.code[p.at]
	}
	return said
}

// has reports whether it is among the sayings what a place says.
func (s sayings) has(p place) bool {
	_, found := s[p]
	return found
}

// contradict reports whether two places, both among the sayings, contradict each other: two rests come of one number just if
// they are the same by what divides both numbers of shops.
func (s sayings) contradict(one, other place) bool {
	common := int(kit.Divisor(int64(one.left), int64(other.left)))
	return s[one]%common != s[other]%common
}

// settle leaves only those sayings that another one contradicts.
func (s sayings) settle() {
search:
	for one := range s {
		for other := range s {
			if s.contradict(one, other) {
				continue search
			}
		}
		delete(s, one)
	}
}

// clash returns the first two places that contradict each other, and false if no two do.
func (b beginning) clash() (int, int, bool) {
	said := b.said()
	said.settle()
	one, found := kit.First(b.places, said.has)
	if !found {
		return 0, 0, false
	}
	other, _ := kit.First(b.places, func(p place) bool { return said.has(p) && said.contradict(one, p) })
	return one.at, other.at, true
}
