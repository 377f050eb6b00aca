package rod

import (
	"slices"

	"porringer/api"
	"porringer/kit"
)

// bench is a valid book, with the rods of a plan.
type bench struct {
	api.RodBook
	rods []plates
}

// pair is two different cases, in order.
type pair struct {
	one, other []int
}

// suspicion is a plate, and a case by which it may look bad.
type suspicion struct {
	bad   []int
	plate int
}

// newBench returns the bench of a book, or the book's error.
func newBench(b api.RodBook) (bench, api.Errno) {
	if e := CheckBook(b); e != api.OK {
		return bench{}, e
	}
	return bench{RodBook: b}, api.OK
}

// newBenchWith returns the bench of a book and a plan, or the first error of both.
func newBenchWith(b api.RodBook, plan [][]int) (bench, api.Errno) {
	d, e := newBench(b)
	if e != api.OK {
		return bench{}, e
	}
	if len(plan) > api.MaxRodRods {
		return bench{}, api.ErrMany
	}
	for _, rod := range plan {
		if !kit.Indexes(rod, d.Plates) {
			return bench{}, api.ErrRange
		}
		d.rods = append(d.rods, newPlates(rod))
	}
	return d, api.OK
}

// newBenchSeen returns the bench of a book and a plan of which results were seen, or the first error of all of them.
func newBenchSeen(b api.RodBook, plan [][]int, results []int) (bench, api.Errno) {
	d, e := newBenchWith(b, plan)
	switch {
	case e != api.OK:
		return bench{}, e
	case len(results) != len(d.rods):
		return bench{}, api.ErrEqual
	case !kit.Within(0, 1, results...):
		return bench{}, api.ErrRange
	}
	return d, api.OK
}

// cases yields all cases, in order.
func (d bench) cases(yield func([]int) bool) {
	for many := range d.Most + 1 {
		short := func(list []int, _ int) bool { return len(list) < many }
		for bad := range kit.Lists(d.Plates, short) {
			if len(bad) == many && !yield(bad) {
				return
			}
		}
	}
}

// pairs yields all pairs of cases, in the order of the first ones, and then of the others.
func (d bench) pairs(yield func(pair) bool) {
	cases := slices.Collect(d.cases)
	for i, one := range cases {
		for _, other := range cases[i+1:] {
			if !yield(pair{one, other}) {
				return
			}
		}
	}
}

// suspicions yields each plate by each case, in the order of cases, and then of plates.
func (d bench) suspicions(yield func(suspicion) bool) {
	for bad := range d.cases {
		for plate := range d.Plates {
			if !yield(suspicion{bad, plate}) {
				return
			}
		}
	}
}

// results returns the results of the plan in a case.
func (d bench) results(bad []int) []int {
	var room [api.MaxRodRods]int
	grown := room[:0:len(d.rods)]
	for _, rod := range d.rods {
		grown = append(grown, rod.result(bad))
	}
	results := make([]int, len(grown))
	copy(results, grown)
	return results
}

// told returns all cases whose results were seen, in order, or ErrRod.
func (d bench) told(results []int) ([][]int, api.Errno) {
	var told [][]int
	for bad := range d.cases {
		if slices.Equal(d.results(bad), results) {
			told = append(told, bad)
		}
	}
	if len(told) == 0 {
		return nil, api.ErrRod
	}
	return told, api.OK
}

// alike returns the first pair of cases that the plan does not tell, and false if it tells all.
func (d bench) alike() (pair, bool) {
	return kit.First(d.pairs, func(p pair) bool {
		return !slices.ContainsFunc(d.rods, func(rod plates) bool { return rod.result(p.one) != rod.result(p.other) })
	})
}

// covered returns the first case that covers a plate, with the first such plate, and false if the plan is plain.
func (d bench) covered() (suspicion, bool) {
	return kit.First(d.suspicions, func(s suspicion) bool {
		clears := func(rod plates) bool { return rod[s.plate] && rod.result(s.bad) == 0 }
		return !slices.Contains(s.bad, s.plate) && !slices.ContainsFunc(d.rods, clears)
	})
}

// suspects returns the plates that are in no rod whose result is 0.
func (d bench) suspects(results []int) []int {
	var good []plates
	for i, rod := range d.rods {
		if results[i] == 0 {
			good = append(good, rod)
		}
	}
	var suspects []int
	for plate := range d.Plates {
		if !slices.ContainsFunc(good, func(rod plates) bool { return rod[plate] }) {
			suspects = append(suspects, plate)
		}
	}
	return suspects
}
