package rod_test

import (
	"math"
	"slices"
	"testing"

	"porringer/api"
	"porringer/rod"
)

// The tests of this file are those of the document's rules R1 to R10, and of P1. Layer 8 reads and writes no text, so that
// R7 has no test here. Of equal candidates Alike and Covered return the first one, which the tests of P8.3 and P8.5 check as
// R8.

// call is what a function is called with, all that any of them needs.
type call struct {
	b       api.RodBook
	plan    [][]int
	bad     []int
	results []int
}

// result is what a function returned.
type result struct {
	name   string
	lists  [][]int
	number int
	e      api.Errno
}

func (r result) equals(other result) bool {
	return r.name == other.name && same(r.lists, other.lists) && r.number == other.number && r.e == other.e
}

func equal(one, other []result) bool { return slices.EqualFunc(one, other, result.equals) }

// several returns lists, but none of those that have nothing.
func several(lists ...[]int) [][]int {
	return slices.DeleteFunc(lists, func(list []int) bool { return len(list) == 0 })
}

// all returns the results of all functions, with the same arguments.
func (c call) all() []result {
	var all []result
	add := func(r result) { all = append(all, r) }
	add(result{name: "CheckBook", e: rod.CheckBook(c.b)})
	cases, e := rod.Cases(c.b)
	add(result{name: "Cases", lists: cases, e: e})
	add(result{name: "CheckPlan", e: rod.CheckPlan(c.b, c.plan)})
	list, e := rod.Results(c.b, c.plan, c.bad)
	add(result{name: "Results", lists: several(list), e: e})
	add(result{name: "CheckTells", e: rod.CheckTells(c.b, c.plan)})
	one, other, e := rod.Alike(c.b, c.plan)
	add(result{name: "Alike", lists: several(one, other), e: e})
	cases, e = rod.Told(c.b, c.plan, c.results)
	add(result{name: "Told", lists: cases, e: e})
	add(result{name: "CheckPlain", e: rod.CheckPlain(c.b, c.plan)})
	list, number, e := rod.Covered(c.b, c.plan)
	add(result{name: "Covered", lists: several(list), number: number, e: e})
	list, e = rod.Suspects(c.b, c.plan, c.results)
	add(result{name: "Suspects", lists: several(list), e: e})
	number, e = rod.Bound(c.b)
	add(result{name: "Bound", number: number, e: e})
	number, e = rod.Needed(c.b, c.plan, c.results)
	add(result{name: "Needed", number: number, e: e})
	list, e = rod.Next(c.b, c.plan, c.results)
	add(result{name: "Next", lists: several(list), e: e})
	return all
}

// errno returns the error of one of the functions.
func (c call) errno(name string) api.Errno {
	for _, r := range c.all() {
		if r.name == name {
			return r.e
		}
	}
	return -1
}

// goodCall returns one of which no function has an error but CheckTells and CheckPlain, which cannot have none if Alike and
// Covered have none.
func goodCall() call {
	return call{chapterB(), chapterP(), list(0), list(0, 0)}
}

// call returns one with arguments that are valid.
func (d *dice) call() call {
	b := d.book([]int{4, 5, api.MaxRodPlates}[d.upTo(2)])
	plan := d.plan(b, d.upTo(api.MaxRodRods))
	return call{b, plan, d.bad(b), resultsOf(plan, d.bad(b))}
}

// with returns a call of which something is changed.
func (c call) with(change func(c *call)) call {
	change(&c)
	return c
}

// R1: the book's error is that of all functions, whatever else is wrong.
func TestBookFirst(t *testing.T) {
	for _, x := range []struct {
		b api.RodBook
		e api.Errno
	}{
		{book(0, 0), api.ErrMany},
		{book(9, 2), api.ErrMany},
		{book(-1, 3), api.ErrMany},
		{book(9, -1), api.ErrMany},
		{book(4, 3), api.ErrRange},
		{book(4, -1), api.ErrRange},
		{book(8, 3), api.ErrRange},
	} {
		for _, wrong := range []int{-1, 0, 1, 9} {
			many := slices.Repeat(lists(list(wrong, wrong)), 9)
			for _, plan := range [][][]int{nil, many[:1], many[:8], many} {
				for _, r := range (call{x.b, plan, list(wrong, wrong), list(wrong, wrong)}).all() {
					if r.e != x.e {
						t.Error(x.b, wrong, len(plan), r)
					}
				}
			}
		}
	}
}

// R1: the plan's error is that of all functions with a plan, whatever else is wrong.
func TestPlanNext(t *testing.T) {
	for i, x := range []struct {
		plan [][]int
		e    api.Errno
	}{
		{slices.Repeat(lists(list(0)), 9), api.ErrMany},
		{slices.Repeat(lists(list(9)), 9), api.ErrMany},
		{lists(list(8)), api.ErrRange},
		{lists(list(0, 1), list(0), list(1, 0)), api.ErrRange},
		{slices.Repeat(lists(list(-1)), 8), api.ErrRange},
	} {
		for _, b := range []api.RodBook{book(1, 0), chapterB(), book(8, 2)} {
			for _, wrong := range [][]int{nil, list(0), list(2, 0), list(-1, 9)} {
				for _, r := range (call{b, x.plan, wrong, wrong}).all() {
					want := x.e
					if r.name == "CheckBook" || r.name == "Cases" || r.name == "Bound" {
						want = api.OK
					}
					if r.e != want {
						t.Error(i, b, wrong, r)
					}
				}
			}
		}
	}
}

// R1
func TestOrderOfErrors(t *testing.T) {
	six := func(c *call) { c.b = book(6, 1) }
	for i, x := range []struct {
		name   string
		change func(c *call)
		e      api.Errno
	}{
		{"Told", func(c *call) { c.results = list(2) }, api.ErrEqual},
		{"Told", func(c *call) { c.results = list(1, 1, 2) }, api.ErrEqual},
		{"Told", func(c *call) { c.results, c.plan = list(1, 2), lists(list(), list()) }, api.ErrRange},
		{"Told", func(c *call) { c.results, c.plan = list(1, 0), lists(list(), list()) }, api.ErrRod},
		{"Suspects", func(c *call) { c.results = list(2) }, api.ErrEqual},
		{"Suspects", func(c *call) { c.results, c.plan = list(1, 2), lists(list(), list()) }, api.ErrRange},
		{"Suspects", func(c *call) { c.results, c.plan = list(1, 0), lists(list(), list()) }, api.OK},
		{"Needed", func(c *call) { six(c); c.results = list(2) }, api.ErrEqual},
		{"Needed", func(c *call) { six(c); c.results = list(0, 2) }, api.ErrRange},
		{"Needed", func(c *call) { six(c); c.results, c.plan = list(1, 0), lists(list(), list()) }, api.ErrMany},
		{"Needed", func(c *call) { c.results, c.plan = list(1, 0), lists(list(), list()) }, api.ErrRod},
		{"Needed", func(c *call) { c.results = list(1, 0) }, api.OK},
		{"Next", func(c *call) { six(c); c.results = list(2) }, api.ErrEqual},
		{"Next", func(c *call) { six(c); c.results = list(0, 2) }, api.ErrRange},
		{"Next", func(c *call) { six(c); c.results, c.plan = list(1, 0), lists(list(), list()) }, api.ErrMany},
		{"Next", func(c *call) { six(c); c.results = list(1, 0) }, api.ErrMany},
		{"Next", func(c *call) { c.results, c.plan = list(1, 0), lists(list(), list()) }, api.ErrRod},
		{"Next", func(c *call) { c.results = list(1, 0) }, api.ErrNone},
		{"Results", func(c *call) { c.bad = list(0, 1, 9) }, api.ErrArg},
		{"Results", func(c *call) { c.results = list(9) }, api.OK},
		{"CheckPlan", func(c *call) { c.bad, c.results = list(9), list(9) }, api.OK},
		{"Alike", func(c *call) { c.bad, c.results = list(9), list(9) }, api.OK},
		{"Covered", func(c *call) { c.bad, c.results = list(9), list(9) }, api.OK},
		{"Cases", func(c *call) { c.plan, c.bad, c.results = lists(list(9)), list(9), list(9) }, api.OK},
		{"Bound", func(c *call) { c.plan, c.bad, c.results = lists(list(9)), list(9), list(9) }, api.OK},
		{"Told", func(c *call) { c.bad = list(9) }, api.OK},
		{"Next", func(c *call) { c.bad = list(9) }, api.OK},
		{"CheckTells", func(c *call) { c.plan = alone(4) }, api.OK},
		{"CheckPlain", func(c *call) { c.plan = alone(4) }, api.OK},
	} {
		if e := goodCall().with(x.change).errno(x.name); e != x.e {
			t.Error(i, x.name, e)
		}
	}
	for _, r := range goodCall().all() {
		if r.e != api.OK && r.name != "CheckTells" && r.name != "CheckPlain" {
			t.Error(r)
		}
	}
}

// R2
func TestZeroWithError(t *testing.T) {
	for i, change := range []func(c *call){
		func(c *call) { c.b.Plates = 0 },
		func(c *call) { c.b.Plates = 2 },
		func(c *call) { c.b.Plates = 6 },
		func(c *call) { c.b.Most = 3 },
		func(c *call) { c.plan = slices.Repeat(chapterP(), 5) },
		func(c *call) { c.plan = lists(list(0, 1), list(2, 1)) },
		func(c *call) { c.plan = alone(4) },
		func(c *call) { c.bad = list(0, 1) },
		func(c *call) { c.bad = list(4) },
		func(c *call) { c.results = list(0) },
		func(c *call) { c.results = list(0, 2) },
		func(c *call) { c.results = list(1, 0) },
		func(c *call) { c.plan, c.results = lists(list(), list(1)), list(1, 0) },
	} {
		some := false
		for _, r := range goodCall().with(change).all() {
			some = some || r.e != api.OK && r.name != "CheckTells" && r.name != "CheckPlain"
			if r.e != api.OK && !r.equals(result{name: r.name, e: r.e}) {
				t.Error(i, r)
			}
		}
		if !some {
			t.Error(i, "no error")
		}
	}
}

// R3
func TestNilAndEmpty(t *testing.T) {
	for _, x := range []struct{ without, with call }{
		{call{b: chapterB()}, call{chapterB(), [][]int{}, []int{}, []int{}}},
		{call{b: book(8, 2)}, call{book(8, 2), [][]int{}, []int{}, []int{}}},
		{call{chapterB(), [][]int{nil}, nil, list(0)}, call{chapterB(), [][]int{{}}, []int{}, list(0)}},
		{call{chapterB(), [][]int{list(0), nil}, nil, nil}, call{chapterB(), [][]int{list(0), {}}, []int{}, []int{}}},
	} {
		if one, other := x.without.all(), x.with.all(); !equal(one, other) {
			t.Error(one, other)
		}
	}
}

// roomy returns a copy of a list with room behind it that is filled.
func roomy[T any](list []T, filled T) []T {
	n := len(list)
	return slices.Concat(list, slices.Repeat([]T{filled}, 20))[:n]
}

// roomyLists returns a copy of lists, all with room behind them.
func roomyLists(several [][]int) [][]int {
	copies := roomy(several, list(-7))
	for i, one := range copies {
		copies[i] = roomy(one, -7)
	}
	return copies
}

// untouched tells whether a list is as it was, and what is behind it too.
func untouched(roomy, list []int) bool {
	n := len(list)
	return slices.Equal(roomy, list) && slices.Equal(roomy[:n+20][n:], slices.Repeat([]int{-7}, 20))
}

// untouchedLists tells whether lists are as they were, and what is behind them too.
func untouchedLists(roomy, several [][]int) bool {
	n := len(several)
	return slices.EqualFunc(roomy, several, untouched) && same(roomy[:n+20][n:], slices.Repeat(lists(list(-7)), 20))
}

// R4
func TestArgumentsUnchanged(t *testing.T) {
	d := dice(4)
	for i := range 200 {
		kept := d.call()
		c := call{kept.b, roomyLists(kept.plan), roomy(kept.bad, -7), roomy(kept.results, -7)}
		before := c.all()
		if !untouchedLists(c.plan, kept.plan) || !untouched(c.bad, kept.bad) || !untouched(c.results, kept.results) {
			t.Fatal(i, "an argument was changed")
		}
		for _, numbers := range append(c.plan, c.bad, c.results) {
			spoil(numbers)
		}
		clear(c.plan)
		if !equal(before, kept.all()) {
			t.Fatal(i, "a result shares memory with an argument, or keeps it")
		}
	}
}

// spoil writes over numbers and over all the memory that is theirs.
func spoil(numbers []int) {
	numbers = numbers[:cap(numbers)]
	for i := range numbers {
		numbers[i] = -9
	}
}

// clone returns results with memory of their own.
func clone(results []result) []result {
	results = slices.Clone(results)
	for i, r := range results {
		results[i].lists = cloned(r.lists)
	}
	return results
}

// R4: no result, and no argument, changes when another result is spoilt; nor does another list of the same result.
func TestResultsApart(t *testing.T) {
	d := dice(5)
	for i := range 60 {
		c := d.call()
		if i == 0 {
			c = goodCall()
		}
		argument := call{c.b, cloned(c.plan), slices.Clone(c.bad), slices.Clone(c.results)}
		results := c.all()
		kept := clone(results)
		for at, r := range results {
			for one, numbers := range r.lists {
				spoil(numbers)
				if !same(r.lists[one+1:], kept[at].lists[one+1:]) {
					t.Error(i, r.name, one)
				}
			}
			clear(r.lists[:cap(r.lists)])
			if !equal(results[at+1:], kept[at+1:]) || !equal(argument.all(), kept) {
				t.Error(i, r.name)
			}
		}
		if !same(c.plan, argument.plan) || !slices.Equal(c.bad, argument.bad) || !slices.Equal(c.results, argument.results) {
			t.Error(i, "a result was a part of an argument")
		}
	}
}

// R5, R6 and P1: any value of any argument has a result or an error.
func TestAnyArguments(t *testing.T) {
	wild := list(math.MinInt, math.MinInt+1, -1<<33, -2, -1, 0, 1, 2, 3, 4, 5, 6, 7, 8, 9, 1<<33, 1<<33+1, math.MaxInt-1, math.MaxInt)
	for _, a := range wild {
		for _, b := range wild {
			checkWild(t, a, b)
			for _, plan := range [][][]int{nil, lists(list(a)), lists(list(a, b)), lists(list(), list(0), list(a, b, a))} {
				wide := call{book(a, b), plan, list(a, b), list(b, a)}
				narrow := call{book(4, 2), plan, list(b, a), list(a)}
				if len(wide.all()) != 13 || len(narrow.all()) != 13 {
					t.Error(a, b)
				}
			}
		}
	}
}

// checkWild checks the errors of wild numbers beside others that are valid.
func checkWild(t *testing.T, a, b int) {
	t.Helper()
	areIndexes := func(n int) bool { return 0 <= a && a < b && b < n }
	want := func(good bool, e api.Errno) api.Errno {
		if good {
			return api.OK
		}
		return e
	}
	if e := rod.CheckBook(book(a, 1)); e != want(a >= 1 && a <= 8, api.ErrMany) {
		t.Error("plates", a, e)
	}
	if e := rod.CheckBook(book(4, a)); e != want(a >= 0 && a <= 2, api.ErrRange) {
		t.Error("most", a, e)
	}
	if e := rod.CheckPlan(book(7, 1), lists(list(0), list(a, b))); e != want(areIndexes(7), api.ErrRange) {
		t.Error("rod", a, b, e)
	}
	if _, e := rod.Results(book(7, 2), nil, list(a, b)); e != want(areIndexes(7), api.ErrArg) {
		t.Error("case", a, b, e)
	}
	seen := call{book(4, 2), lists(list(0), list(1)), nil, list(a, b)}
	areResults := min(a, b) >= 0 && max(a, b) <= 1
	for _, name := range []string{"Told", "Suspects", "Needed"} {
		if e := seen.errno(name); e != want(areResults, api.ErrRange) {
			t.Error(name, a, b, e)
		}
	}
	if e := seen.errno("Next"); areResults && a+b == 2 && e != api.ErrNone || !areResults && e != api.ErrRange {
		t.Error("Next", a, b, e)
	}
}

// P1: lists can have any length.
func TestLongArguments(t *testing.T) {
	long := make([]int, 1<<16)
	for i := range long {
		long[i] = i
	}
	for i, x := range []struct {
		c    call
		name string
		e    api.Errno
	}{
		{call{book(8, 2), lists(long), nil, nil}, "CheckPlan", api.ErrRange},
		{call{book(8, 2), slices.Repeat(lists(long), 1000), nil, nil}, "CheckPlan", api.ErrMany},
		{call{book(8, 2), nil, long, nil}, "Results", api.ErrArg},
		{call{book(8, 2), nil, nil, long}, "Told", api.ErrEqual},
		{call{book(8, 2), nil, nil, long}, "Suspects", api.ErrEqual},
		{call{book(5, 2), nil, nil, long}, "Needed", api.ErrEqual},
		{call{book(5, 2), nil, nil, long}, "Next", api.ErrEqual},
	} {
		if e := x.c.errno(x.name); e != x.e {
			t.Error(i, e)
		}
	}
}

// R8, R9: equal calls return equal results, also where a map has many sets of cases.
func TestAgain(t *testing.T) {
	d := dice(6)
	for i := range 40 {
		c := d.call()
		if i == 0 {
			c = call{b: book(api.MaxRodNeeded, api.MaxRodBad)}
		}
		first := c.all()
		for range 10 {
			if again := c.all(); !equal(first, again) {
				t.Fatal(first, again)
			}
		}
	}
}

// R10
func TestNothingKept(t *testing.T) {
	d := dice(7)
	var calls []call
	var first [][]result
	for range 90 {
		c := d.call()
		calls, first = append(calls, c), append(first, c.all())
	}
	for i, c := range slices.Backward(calls) {
		if !equal(first[i], c.all()) {
			t.Error(c)
		}
	}
}
