package blame_test

import (
	"math"
	"slices"
	"testing"

	"porringer/api"
	"porringer/blame"
)

// The tests of this file are those of the document's rules R1 to R10, and of P1. Layer 6 reads and writes no text, so that
// R7 has no test here. Of equal candidates Blame, Apart and Forgotten return the first one, which the tests of P6.3, P6.4
// and P6.6 check as R8.

// call is what a function is called with, all that any of them needs.
type call struct {
	b     api.BlameBook
	set   []int
	hires []int
	list  [][]int
	inn   int
}

// result is what a function returned.
type result struct {
	name   string
	list   []int
	lists  [][]int
	number int
	e      api.Errno
}

func (r result) equals(other result) bool {
	return r.name == other.name && slices.Equal(r.list, other.list) && same(r.lists, other.lists) && r.number == other.number && r.e == other.e
}

func equal(one, other []result) bool { return slices.EqualFunc(one, other, result.equals) }

// all returns the results of all functions, with the same arguments.
func (c call) all() []result {
	var all []result
	add := func(r result) { all = append(all, r) }
	add(result{name: "CheckBook", e: blame.CheckBook(c.b)})
	number, e := blame.CheckBlame(c.b, c.set)
	add(result{name: "CheckBlame", number: number, e: e})
	number, e = blame.CheckTight(c.b, c.set)
	add(result{name: "CheckTight", number: number, e: e})
	number, e = blame.Fewest(c.b)
	add(result{name: "Fewest", number: number, e: e})
	set, e := blame.Blame(c.b)
	add(result{name: "Blame", list: set, e: e})
	add(result{name: "CheckApart", e: blame.CheckApart(c.b, c.hires)})
	hires, e := blame.Apart(c.b)
	add(result{name: "Apart", list: hires, e: e})
	set, e = blame.Tight(c.b, c.set)
	add(result{name: "Tight", list: set, e: e})
	sets, e := blame.All(c.b)
	add(result{name: "All", lists: sets, e: e})
	add(result{name: "CheckAll", e: blame.CheckAll(c.b, c.list)})
	set, e = blame.Forgotten(c.b, c.list)
	add(result{name: "Forgotten", list: set, e: e})
	number, e = blame.Kind(c.b, c.inn)
	add(result{name: "Kind", number: number, e: e})
	core, e := blame.Core(c.b)
	add(result{name: "Core", lists: core.Hires, number: core.Inns, e: e})
	dual, e := blame.Dual(c.b)
	add(result{name: "Dual", lists: dual.Hires, number: dual.Inns, e: e})
	return all
}

// errno returns the error of one of the functions.
func (c call) errno(name string) api.Errno {
	for _, r := range c.all() {
		if r.name == name {
			return r.e
		}
	}
	return -1
}

// goodCall returns one of which no function has an error but CheckAll and Forgotten, which cannot both have none.
func goodCall() call {
	return call{chapterB(), list(0, 2), list(0, 2), lists(list(0, 2)), 0}
}

// call returns one with arguments that are valid.
func (d *dice) call() call {
	b := d.book(api.MaxBlameInns, api.MaxBlameHires)
	return call{b, d.some(b.Inns, 2), d.some(len(b.Hires), 4), d.sets(b, 12), d.upTo(b.Inns - 1)}
}

// with returns a call of which something is changed.
func (c call) with(change func(c *call)) call {
	change(&c)
	return c
}

// R1: the book's error is that of all functions, whatever else is wrong.
func TestBookFirst(t *testing.T) {
	for _, x := range []struct {
		b api.BlameBook
		e api.Errno
	}{
		{book(0, list(0)), api.ErrMany},
		{book(9, list(9)), api.ErrMany},
		{book(-1, list(), list(1, 0)), api.ErrMany},
		{book(2, slices.Repeat(lists(list(1, 0)), 11)...), api.ErrMany},
		{book(9, slices.Repeat(lists(list(1, 0)), 11)...), api.ErrMany},
		{book(2, list(), list(2)), api.ErrRange},
		{book(2, list(0), list(1, 1)), api.ErrRange},
	} {
		for _, wrong := range []int{-1, 0, 1, 8} {
			many := slices.Repeat(lists(list(wrong, wrong)), 81)
			for _, sets := range [][][]int{nil, many[:1], many[:80], many} {
				for _, r := range (call{x.b, list(wrong, wrong), list(wrong, wrong), sets, wrong}).all() {
					if r.e != x.e {
						t.Error(x.b, wrong, len(sets), r)
					}
				}
			}
		}
	}
}

// R1
func TestOrderOfErrors(t *testing.T) {
	none := book(3, list(0), list())
	for i, x := range []struct {
		name   string
		change func(c *call)
		e      api.Errno
	}{
		{"CheckBlame", func(c *call) { c.set = list(0, 1, 5) }, api.ErrRange},
		{"CheckBlame", func(c *call) { c.b, c.set = none, list(3) }, api.ErrRange},
		{"CheckTight", func(c *call) { c.set = list(0, 1, 5) }, api.ErrRange},
		{"CheckTight", func(c *call) { c.set = list(0, 1, 4) }, api.ErrBlame},
		{"CheckTight", func(c *call) { c.set = list(0, 2, 4) }, api.ErrRule},
		{"CheckTight", func(c *call) { c.b, c.set = none, list(0, 1) }, api.ErrBlame},
		{"Tight", func(c *call) { c.b, c.set = none, list(1, 0) }, api.ErrRange},
		{"Tight", func(c *call) { c.b, c.set = none, list(0, 1) }, api.ErrBlame},
		{"CheckApart", func(c *call) { c.hires = list(0, 1, 4) }, api.ErrRange},
		{"CheckApart", func(c *call) { c.hires = list(0, 1, 1) }, api.ErrRange},
		{"CheckApart", func(c *call) { c.b, c.hires = none, list(1, 2) }, api.ErrRange},
		{"CheckApart", func(c *call) { c.b, c.hires = none, list(0, 1) }, api.ErrRule},
		{"CheckAll", func(c *call) { c.list = slices.Repeat(lists(list(5)), 81) }, api.ErrMany},
		{"CheckAll", func(c *call) { c.list = lists(list(1), list(3, 0)) }, api.ErrRange},
		{"CheckAll", func(c *call) { c.b, c.list = none, lists(list(3)) }, api.ErrRange},
		{"Forgotten", func(c *call) { c.list = slices.Repeat(lists(list(5)), 81) }, api.ErrMany},
		{"Forgotten", func(c *call) { c.list = lists(list(), list(0, 5)) }, api.ErrRange},
		{"Forgotten", func(c *call) { c.b, c.list = none, lists(list(-1)) }, api.ErrRange},
		{"Kind", func(c *call) { c.b, c.inn = none, 3 }, api.ErrArg},
		{"Kind", func(c *call) { c.b, c.inn = none, 2 }, api.ErrBlame},
		{"Fewest", func(c *call) { c.set, c.hires, c.list, c.inn = list(9), list(9), lists(list(9)), 9 }, api.OK},
		{"Blame", func(c *call) { c.set, c.hires, c.list, c.inn = list(9), list(9), lists(list(9)), 9 }, api.OK},
		{"Tight", func(c *call) { c.hires, c.list, c.inn = list(9), lists(list(9)), 9 }, api.OK},
		{"CheckApart", func(c *call) { c.set, c.list, c.inn = list(9), lists(list(9)), 9 }, api.OK},
		{"Forgotten", func(c *call) { c.set, c.hires, c.inn = list(9), list(9), 9 }, api.OK},
		{"CheckAll", func(c *call) { c.list = lists(list(0, 2), list(1, 3)) }, api.OK},
		{"Kind", func(c *call) { c.set, c.hires, c.list = list(9), list(9), lists(list(9)) }, api.OK},
		{"Apart", func(c *call) { c.b = none }, api.OK},
		{"All", func(c *call) { c.b = none }, api.OK},
		{"Core", func(c *call) { c.b = none }, api.OK},
		{"Dual", func(c *call) { c.b = none }, api.OK},
	} {
		if e := goodCall().with(x.change).errno(x.name); e != x.e {
			t.Error(i, x.name, e)
		}
	}
	for _, r := range goodCall().all() {
		if r.e != api.OK && r.name != "CheckAll" {
			t.Error(r)
		}
	}
}

// R2: only CheckBlame and CheckTight return a number with an error, and only with two of them.
func TestZeroWithError(t *testing.T) {
	for i, change := range []func(c *call){
		func(c *call) { c.b.Inns = 0 },
		func(c *call) { c.b.Inns = 3 },
		func(c *call) { c.b = chapterD() },
		func(c *call) { c.b = book(5, slices.Repeat(chapterB().Hires, 3)...) },
		func(c *call) { c.set = list(5) },
		func(c *call) { c.set = list(2, 0) },
		func(c *call) { c.set = list(1, 2) },
		func(c *call) { c.set = list(0, 2, 4) },
		func(c *call) { c.hires = list(1, 2) },
		func(c *call) { c.hires = list(3, 4) },
		func(c *call) { c.list = slices.Repeat(lists(list(0, 2)), 81) },
		func(c *call) { c.list = lists(list(0, 2), list(4, 5)) },
		func(c *call) { c.list = lists(list(0, 2), list(1, 3)) },
		func(c *call) { c.list = lists(list(1, 3)) },
		func(c *call) { c.inn = 5 },
		func(c *call) { c.inn = -1 },
	} {
		some := false
		for _, r := range goodCall().with(change).all() {
			some = some || r.e != api.OK
			if (r.name == "CheckBlame" || r.name == "CheckTight") && (r.e == api.ErrBlame || r.e == api.ErrRule) {
				r.number = 0
			}
			if r.e != api.OK && !r.equals(result{name: r.name, e: r.e}) {
				t.Error(i, r)
			}
		}
		if !some {
			t.Error(i, "no error")
		}
	}
}

// R3
func TestNilAndEmpty(t *testing.T) {
	for _, x := range []struct{ without, with call }{
		{call{b: book(2)}, call{book(2, lists()...), list(), list(), lists(), 0}},
		{call{b: api.BlameBook{Inns: 2}}, call{api.BlameBook{Inns: 2, Hires: [][]int{}}, []int{}, []int{}, [][]int{}, 0}},
		{call{b: book(2, nil, list(0)), list: [][]int{nil}}, call{book(2, []int{}, list(0)), []int{}, []int{}, [][]int{{}}, 0}},
		{call{b: book(2, list(0)), list: [][]int{nil}}, call{book(2, list(0)), []int{}, []int{}, [][]int{{}}, 0}},
		{call{b: chapterB()}, call{chapterB(), []int{}, []int{}, [][]int{}, 0}},
	} {
		if one, other := x.without.all(), x.with.all(); !equal(one, other) {
			t.Error(one, other)
		}
	}
}

// roomy returns a copy of a list with room behind it that is filled.
func roomy[T any](list []T, filled T) []T {
	n := len(list)
	return slices.Concat(list, slices.Repeat([]T{filled}, 20))[:n]
}

// roomyLists returns a copy of lists, all with room behind them.
func roomyLists(several [][]int) [][]int {
	copies := roomy(several, list(-7))
	for i, one := range copies {
		copies[i] = roomy(one, -7)
	}
	return copies
}

// untouched tells whether a list is as it was, and what is behind it too.
func untouched(roomy, list []int) bool {
	n := len(list)
	return slices.Equal(roomy, list) && slices.Equal(roomy[:n+20][n:], slices.Repeat([]int{-7}, 20))
}

// untouchedLists tells whether lists are as they were, and what is behind them too.
func untouchedLists(roomy, several [][]int) bool {
	n := len(several)
	return slices.EqualFunc(roomy, several, untouched) && same(roomy[:n+20][n:], slices.Repeat(lists(list(-7)), 20))
}

// R4
func TestArgumentsUnchanged(t *testing.T) {
	d := dice(4)
	for i := range 200 {
		kept := d.call()
		c := kept
		c.b.Hires, c.list = roomyLists(kept.b.Hires), roomyLists(kept.list)
		c.set, c.hires = roomy(kept.set, -7), roomy(kept.hires, -7)
		before := c.all()
		if !untouchedLists(c.b.Hires, kept.b.Hires) || !untouchedLists(c.list, kept.list) {
			t.Fatal(i, "hires, or the sets of a list, were changed")
		}
		if !untouched(c.set, kept.set) || !untouched(c.hires, kept.hires) {
			t.Fatal(i, "an argument was changed")
		}
		for _, numbers := range slices.Concat(c.b.Hires, c.list, lists(c.set, c.hires)) {
			spoil(numbers)
		}
		clear(c.b.Hires)
		clear(c.list)
		if !equal(before, kept.all()) {
			t.Fatal(i, "a result shares memory with an argument, or keeps it")
		}
	}
}

// spoil writes over numbers and over all the memory that is theirs.
func spoil(numbers []int) {
	numbers = numbers[:cap(numbers)]
	for i := range numbers {
		numbers[i] = -9
	}
}

// clone returns results with memory of their own.
func clone(results []result) []result {
	results = slices.Clone(results)
	for i, r := range results {
		results[i].list, results[i].lists = slices.Clone(r.list), cloned(r.lists)
	}
	return results
}

// R4: no result, and no argument, changes when another result is spoilt; nor does another list of the same result.
func TestResultsApart(t *testing.T) {
	d := dice(5)
	for i := range 60 {
		c := d.call()
		if i == 0 {
			c = goodCall()
		}
		argument := call{book(c.b.Inns, cloned(c.b.Hires)...), slices.Clone(c.set), slices.Clone(c.hires), cloned(c.list), c.inn}
		results := c.all()
		kept := clone(results)
		for at, r := range results {
			spoil(r.list)
			for one, numbers := range r.lists {
				spoil(numbers)
				if !same(r.lists[one+1:], kept[at].lists[one+1:]) {
					t.Error(i, r.name, one)
				}
			}
			clear(r.lists[:cap(r.lists)])
			if !equal(results[at+1:], kept[at+1:]) || !equal(c.all(), kept) {
				t.Error(i, r.name)
			}
		}
		if !sameBook(c.b, argument.b) || !same(c.list, argument.list) || !slices.Equal(c.set, argument.set) || !slices.Equal(c.hires, argument.hires) {
			t.Error(i, "a result was a part of an argument")
		}
	}
}

// R5, R6 and P1: any value of any argument has a result or an error.
func TestAnyArguments(t *testing.T) {
	wild := list(math.MinInt, math.MinInt+1, -1<<33, -2, -1, 0, 1, 2, 4, 5, 7, 8, 9, 10, 11, 80, 81, 1<<33, 1<<33+1, math.MaxInt-1, math.MaxInt)
	for _, a := range wild {
		for _, b := range wild {
			checkWild(t, a, b)
			for _, hires := range [][][]int{nil, lists(list(a)), lists(list(a, b)), lists(list(), list(0), list(a, b, a))} {
				wide := call{book(a, hires...), list(a, b), list(b, a), lists(list(a), list(b, a)), b}
				narrow := call{book(8, hires...), list(b, a), list(a), lists(list(a, b), list()), a}
				if len(wide.all()) != 14 || len(narrow.all()) != 14 {
					t.Error(a, b)
				}
			}
		}
	}
}

// checkWild checks the errors of wild numbers beside others that are valid.
func checkWild(t *testing.T, a, b int) {
	t.Helper()
	areIndexes := func(n int) bool { return 0 <= a && a < b && b < n }
	want := func(good bool, e api.Errno) api.Errno {
		if good {
			return api.OK
		}
		return e
	}
	if e := blame.CheckBook(book(a)); e != want(a >= 1 && a <= 8, api.ErrMany) {
		t.Error("inns", a, e)
	}
	if e := blame.CheckBook(book(5, list(0), list(a, b))); e != want(areIndexes(5), api.ErrRange) {
		t.Error("hire", a, b, e)
	}
	c := call{book(8), list(a, b), nil, lists(list(), list(a, b)), a}
	for _, name := range []string{"CheckBlame", "Tight", "CheckTight", "CheckAll", "Forgotten"} {
		good := map[string]api.Errno{"CheckTight": api.ErrRule, "CheckAll": api.ErrSum, "Forgotten": api.ErrNone}[name]
		if !areIndexes(8) {
			good = api.ErrRange
		}
		if e := c.errno(name); e != good {
			t.Error(name, a, b, e)
		}
	}
	if e := c.errno("Kind"); e != want(a >= 0 && a < 8, api.ErrArg) {
		t.Error("inn", a, e)
	}
	if e := blame.CheckApart(book(2, list(0), list(1)), list(a, b)); e != want(areIndexes(2), api.ErrRange) {
		t.Error("hires", a, b, e)
	}
}

// P1: a list of sets can have any length.
func TestLongArguments(t *testing.T) {
	long := make([]int, 1<<16)
	for i := range long {
		long[i] = i
	}
	c := call{pairBook(), long, long, slices.Repeat(lists(long), 1000), 0}
	for _, name := range []string{"CheckBlame", "CheckTight", "Tight", "CheckApart"} {
		if e := c.errno(name); e != api.ErrRange {
			t.Error(name, e)
		}
	}
	for _, name := range []string{"CheckAll", "Forgotten"} {
		if e := c.errno(name); e != api.ErrMany {
			t.Error(name, e)
		}
	}
	if e := blame.CheckBook(book(8, long)); e != api.ErrRange {
		t.Error(e)
	}
	if e := blame.CheckBook(book(8, slices.Repeat(lists(long), 1000)...)); e != api.ErrMany {
		t.Error(e)
	}
}

// R8, R9: equal calls return equal results, also where a map has many blames.
func TestAgain(t *testing.T) {
	d := dice(6)
	for i := range 40 {
		c := d.call()
		if i < 2 {
			c.b, c.list = []api.BlameBook{pairBook(), fullBook()}[i], nil
		}
		first := c.all()
		for range 20 {
			if again := c.all(); !equal(first, again) {
				t.Fatal(first, again)
			}
		}
	}
}

// R10
func TestNothingKept(t *testing.T) {
	d := dice(7)
	var calls []call
	var first [][]result
	for range 90 {
		c := d.call()
		calls, first = append(calls, c), append(first, c.all())
	}
	for i, c := range slices.Backward(calls) {
		if !equal(first[i], c.all()) {
			t.Error(c)
		}
	}
}
