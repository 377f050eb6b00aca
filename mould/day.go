package mould

import (
	"slices"

	"porringer/api"
	"porringer/kit"
)

// marks is which days, or which wants, are marked.
type marks [api.MaxMouldWants]bool

// firstDays returns the first ones, in lexicographic order, of the fewest days. Of the days that no want has yet only the
// first one is tried, as all of them are alike to the wants that follow. Since as few days as the greatest load are always
// enough, the search does not go back beyond the first want.
func (d desk) firstDays() []int {
	fewest := d.fewest()
	days := make([]int, len(d.Wants))
	var taken marks
	want, least := 0, 0
search:
	for want < len(days) {
		before := days[:want]
		d.markTaken(&taken, before)
		end := min(fewest, firstUnused(before)+1)
		for day := least; day < end; day++ {
			if !taken[day] {
				days[want] = day
				want, least = want+1, 0
				continue search
			}
		}
		want--
		least = days[want] + 1
	}
	return days
}

// firstUnused returns the first day behind all of those that some wants have.
func firstUnused(days []int) int {
	unused := 0
	for _, day := range days {
		unused = max(unused, day+1)
	}
	return unused
}

// markTaken marks the days that the want behind those with days cannot have.
func (d desk) markTaken(taken *marks, days []int) {
	clear(taken[:])
	for other := range d.clashes(len(days)) {
		if other < len(days) {
			taken[days[other]] = true
		}
	}
}

// plan is a desk with right days.
type plan struct {
	desk
	days []int
}

// place is a mould on a day.
type place struct {
	mould, day int
}

// newPlan returns the plan of a book and days, or the first error of both.
func newPlan(b api.MouldBook, days []int) (plan, api.Errno) {
	d, e := newDesk(b)
	if e != api.OK {
		return plan{}, e
	}
	if len(days) != len(d.Wants) {
		return plan{}, api.ErrEqual
	}
	if !kit.Within(0, api.MaxMouldWants-1, days...) {
		return plan{}, api.ErrRange
	}
	for want, day := range days {
		for other := range d.clashes(want) {
			if days[other] == day {
				return plan{}, api.ErrMould
			}
		}
	}
	p := plan{d, make([]int, len(days))}
	copy(p.days, days)
	return p, api.OK
}

// different returns how many different numbers the days have.
func (p plan) different() int {
	return len(slices.Compact(slices.Sorted(slices.Values(p.days))))
}

// checkSwap returns the error of a want and a second day.
func (p plan) checkSwap(want, day int) api.Errno {
	if !kit.Within(0, len(p.days)-1, want) {
		return api.ErrArg
	}
	if !kit.Within(0, api.MaxMouldWants-1, day) {
		return api.ErrRange
	}
	if p.days[want] == day {
		return api.ErrRule
	}
	return api.OK
}

// chain returns the chain of a want by a second day.
func (p plan) chain(want, day int) []int {
	var reached marks
	reached[want] = true
	chain := []int{want}
	for at := 0; at < len(chain); at++ {
		for other := range p.clashes(chain[at]) {
			if !reached[other] && (p.days[other] == p.days[want] || p.days[other] == day) {
				reached[other] = true
				chain = append(chain, other)
			}
		}
	}
	slices.Sort(chain)
	return chain
}

// swap returns the days when the chain of a want is swapped. All moulds of the chain leave their places before any of
// them takes another one, for one may take a place that another one leaves.
func (p plan) swap(want, day int) []int {
	chain := p.chain(want, day)
	lent := p.lent()
	for _, w := range chain {
		delete(lent, p.place(w))
	}
	for _, w := range chain {
		lent[place{p.Wants[w].Mould, p.days[want] + day - p.days[w]}] = w
	}
	days := make([]int, len(p.days))
	for at, w := range lent {
		days[w] = at.day
	}
	return days
}

// lent returns, for each place of a mould, the want for which it is there.
func (p plan) lent() map[place]int {
	lent := map[place]int{}
	for want := range p.Wants {
		lent[p.place(want)] = want
	}
	return lent
}

// place returns where the mould of a want is.
func (p plan) place(want int) place {
	return place{p.Wants[want].Mould, p.days[want]}
}
