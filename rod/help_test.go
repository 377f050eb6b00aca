package rod_test

import (
	"cmp"
	"slices"
	"testing"

	"porringer/api"
	"porringer/rod"
)

func list(numbers ...int) []int { return numbers }

func lists(several ...[]int) [][]int { return several }

// book returns a book of so many plates, of which so many can be bad.
func book(plates, most int) api.RodBook { return api.RodBook{Plates: plates, Most: most} }

// chapterB, chapterP and chapterQ are the book B, and the plans P and Q, of the chapter's examples.
func chapterB() api.RodBook { return book(4, 1) }
func chapterP() [][]int     { return lists(list(0, 1), list(0, 2)) }
func chapterQ() [][]int     { return lists(list(0, 1), list(0, 2), list(3)) }

// alone returns the plan with each plate alone in a rod.
func alone(plates int) [][]int {
	var plan [][]int
	for plate := range plates {
		plan = append(plan, list(plate))
	}
	return plan
}

// ring returns a plan of eight rods, each of two neighbours in a ring of eight plates. If two plates can be bad it tells all,
// but is not plain: both neighbours of a plate cover it.
func ring() [][]int {
	var plan [][]int
	for plate := range 7 {
		plan = append(plan, list(plate, plate+1))
	}
	return append(plan, list(0, 7))
}

// same tells whether lists of lists are equal.
func same(one, other [][]int) bool { return slices.EqualFunc(one, other, slices.Equal[[]int]) }

// cloned returns a copy of lists with memory of its own.
func cloned(several [][]int) [][]int {
	var copies [][]int
	for _, one := range several {
		copies = append(copies, slices.Clone(one))
	}
	return copies
}

// more returns a plan with one more rod, with memory of its own.
func more(plan [][]int, rod []int) [][]int { return append(cloned(plan), slices.Clone(rod)) }

// dice makes numbers that look as if by chance, but are the same in each run.
type dice uint64

func (d *dice) upTo(most int) int {
	*d = *d*6364136223846793005 + 1442695040888963407
	return int(uint64(*d)>>33) % (most + 1)
}

// some returns a strictly increasing list of numbers below n, each with a chance of one by so many.
func (d *dice) some(n, by int) []int {
	var list []int
	for number := range n {
		if d.upTo(by-1) == 0 {
			list = append(list, number)
		}
	}
	return list
}

// book returns one of up to so many plates.
func (d *dice) book(plates int) api.RodBook {
	return book(1+d.upTo(plates-1), d.upTo(api.MaxRodBad))
}

// plan returns one with so many rods. Some have few plates, as those of plain plans have.
func (d *dice) plan(b api.RodBook, rods int) [][]int {
	var plan [][]int
	by := 2 + d.upTo(2)
	for range rods {
		plan = append(plan, d.some(b.Plates, by))
	}
	if d.upTo(3) == 0 {
		for i := range min(rods, b.Plates) {
			plan[i] = list(i)
		}
	}
	return plan
}

// bad returns a case.
func (d *dice) bad(b api.RodBook) []int {
	cases := casesOf(b)
	return slices.Clone(cases[d.upTo(len(cases)-1)])
}

// results returns a list of so many, each 0 or 1.
func (d *dice) results(many int) []int {
	var results []int
	for range many {
		results = append(results, d.upTo(1))
	}
	return results
}

// order returns the numbers below n in some order.
func (d *dice) order(n int) []int {
	var order []int
	for number := range n {
		order = slices.Insert(order, d.upTo(len(order)), number)
	}
	return order
}

// ask calls a check with many books of up to so many plates, and plans of few and of many rods.
func ask(t *testing.T, plates, many int, check func(t *testing.T, d *dice, b api.RodBook, plan [][]int)) {
	t.Helper()
	d := dice(1)
	for i := range many {
		b := d.book([]int{min(plates, 3), min(plates, 5), plates}[i%3])
		plan := d.plan(b, d.upTo([]int{4, api.MaxRodRods}[i%2]))
		check(t, &d, b, plan)
		if t.Failed() {
			t.Fatalf("plan %d: %v %v", i, b, plan)
		}
	}
}

// everySmall calls a function with all books of up to three plates, and their plans of few rods.
func everySmall(visit func(b api.RodBook, plan [][]int)) {
	for plates := 1; plates <= 3; plates++ {
		for most := range api.MaxRodBad + 1 {
			all := [][][]int{nil}
			for range 7 - plates {
				var longer [][][]int
				for _, plan := range all {
					visit(book(plates, most), cloned(plan))
					for _, rod := range setsOf(plates) {
						longer = append(longer, more(plan, rod))
					}
				}
				all = longer
			}
		}
	}
}

// askAll calls a check with all small books and plans, and with many others.
func askAll(t *testing.T, plates, many int, check func(t *testing.T, d *dice, b api.RodBook, plan [][]int)) {
	t.Helper()
	d := dice(2)
	everySmall(func(b api.RodBook, plan [][]int) {
		if !t.Failed() {
			check(t, &d, b, plan)
			if t.Failed() {
				t.Log(b, plan)
			}
		}
	})
	ask(t, plates, many, check)
}

// setsOf returns all strictly increasing lists of numbers below n, the shorter ones first, and those of one length in
// lexicographic order.
func setsOf(n int) [][]int {
	var all [][]int
	for mask := range 1 << n {
		var list []int
		for number := range n {
			if mask>>number&1 == 1 {
				list = append(list, number)
			}
		}
		all = append(all, list)
	}
	slices.SortFunc(all, func(one, other []int) int {
		return cmp.Or(len(one)-len(other), slices.Compare(one, other))
	})
	return all
}

// resultsUpTo returns all lists of so many results.
func resultsUpTo(many int) [][]int {
	all := [][]int{nil}
	for range many {
		var longer [][]int
		for _, begun := range all {
			longer = append(longer, append(slices.Clone(begun), 0), append(slices.Clone(begun), 1))
		}
		all = longer
	}
	return all
}

// casesOf returns by the definition all cases, in order.
func casesOf(b api.RodBook) [][]int {
	return slices.DeleteFunc(setsOf(b.Plates), func(bad []int) bool { return len(bad) > b.Most })
}

// meet tells whether two lists have a number in common.
func meet(one, other []int) bool {
	return slices.ContainsFunc(one, func(number int) bool { return slices.Contains(other, number) })
}

// isIn tells whether a list is in another one, as a part or as the whole.
func isIn(one, other []int) bool {
	return !slices.ContainsFunc(one, func(number int) bool { return !slices.Contains(other, number) })
}

// resultsOf returns by the definition the results of a plan in a case.
func resultsOf(plan [][]int, bad []int) []int {
	results := make([]int, len(plan))
	for i, rod := range plan {
		if meet(rod, bad) {
			results[i] = 1
		}
	}
	return results
}

// toldOf returns by the definition the cases whose results were seen.
func toldOf(b api.RodBook, plan [][]int, results []int) [][]int {
	return slices.DeleteFunc(casesOf(b), func(bad []int) bool { return !slices.Equal(resultsOf(plan, bad), results) })
}

// alikeOf returns by the definition the first case that is not told from a later one, and the first such one; or nothing.
func alikeOf(b api.RodBook, plan [][]int) [][]int {
	for i, one := range casesOf(b) {
		for _, other := range casesOf(b)[i+1:] {
			if slices.Equal(resultsOf(plan, one), resultsOf(plan, other)) {
				return lists(one, other)
			}
		}
	}
	return nil
}

// coveredOf returns by the definition the plates that a case covers.
func coveredOf(b api.RodBook, plan [][]int, bad []int) []int {
	var covered []int
	for plate := range b.Plates {
		covers := !slices.Contains(bad, plate)
		for _, rod := range plan {
			covers = covers && (!slices.Contains(rod, plate) || meet(rod, bad))
		}
		if covers {
			covered = append(covered, plate)
		}
	}
	return covered
}

// suspectsOf returns by the definition the suspects by results.
func suspectsOf(b api.RodBook, plan [][]int, results []int) []int {
	suspects := setsOf(b.Plates)[1<<b.Plates-1]
	for i, rod := range plan {
		if results[i] == 0 {
			suspects = slices.DeleteFunc(suspects, func(plate int) bool { return slices.Contains(rod, plate) })
		}
	}
	return suspects
}

// question is whether so many rods are enough for cases, of which each is a bit.
type question struct {
	cases uint64
	rods  int
}

// asker knows which cases of a book are told by rods, and what it was asked before.
type asker struct {
	cases [][]int
	hits  []uint64
	known map[question]bool
}

func newAsker(b api.RodBook) asker {
	a := asker{cases: casesOf(b), known: map[question]bool{}}
	for _, rod := range setsOf(b.Plates) {
		a.hits = append(a.hits, a.set(func(bad []int) bool { return meet(rod, bad) }))
	}
	return a
}

// set returns the cases that have something, as bits.
func (a asker) set(has func(bad []int) bool) uint64 {
	var set uint64
	for i, bad := range a.cases {
		if has(bad) {
			set |= 1 << i
		}
	}
	return set
}

// enough tells whether so many rods, or fewer, are enough for cases: none for a single one, or else one after which one
// less is enough, whatever its result.
func (a asker) enough(q question) bool {
	if q.cases&(q.cases-1) == 0 || q.rods == 0 {
		return q.cases&(q.cases-1) == 0
	}
	enough, found := a.known[q]
	for i := 0; i < len(a.hits) && !found && !enough; i++ {
		good, bad := q.cases&^a.hits[i], q.cases&a.hits[i]
		enough = a.enough(question{good, q.rods - 1}) && a.enough(question{bad, q.rods - 1})
	}
	a.known[q] = enough
	return enough
}

// needed returns how many rods are needed for cases.
func (a asker) needed(cases uint64) int {
	rods := 0
	for !a.enough(question{cases, rods}) {
		rods++
	}
	return rods
}

// left returns the cases of which results were seen.
func (a asker) left(plan [][]int, results []int) uint64 {
	return a.set(func(bad []int) bool { return slices.Equal(resultsOf(plan, bad), results) })
}

// isBest tells whether a rod leaves of cases, whatever its result, only what needs fewer rods than they do.
func (a asker) isBest(cases uint64, rod []int) bool {
	hit := a.set(func(bad []int) bool { return meet(rod, bad) })
	return max(a.needed(cases&hit), a.needed(cases&^hit)) < a.needed(cases)
}

func mustResults(t *testing.T, b api.RodBook, plan [][]int, bad []int) []int {
	t.Helper()
	results, e := rod.Results(b, plan, bad)
	if e != api.OK {
		t.Fatal(b, plan, bad, e)
	}
	return results
}

func mustTold(t *testing.T, b api.RodBook, plan [][]int, results []int) [][]int {
	t.Helper()
	told, e := rod.Told(b, plan, results)
	if e != api.OK {
		t.Fatal(b, plan, results, e)
	}
	return told
}

func mustSuspects(t *testing.T, b api.RodBook, plan [][]int, results []int) []int {
	t.Helper()
	suspects, e := rod.Suspects(b, plan, results)
	if e != api.OK {
		t.Fatal(b, plan, results, e)
	}
	return suspects
}

func mustNeeded(t *testing.T, b api.RodBook, plan [][]int, results []int) int {
	t.Helper()
	rods, e := rod.Needed(b, plan, results)
	if e != api.OK {
		t.Fatal(b, plan, results, e)
	}
	return rods
}

func mustCases(t *testing.T, b api.RodBook) [][]int {
	t.Helper()
	cases, e := rod.Cases(b)
	if e != api.OK {
		t.Fatal(b, e)
	}
	return cases
}

func mustBound(t *testing.T, b api.RodBook) int {
	t.Helper()
	bound, e := rod.Bound(b)
	if e != api.OK {
		t.Fatal(b, e)
	}
	return bound
}
