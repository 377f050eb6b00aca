package rim_test

import (
	"math"
	"slices"
	"testing"

	"porringer/api"
	"porringer/rim"
)

// The tests of this file are those of the document's rules R1 to R10, and of P1. Layer 4 reads and writes no text, so that
// R7 has no test here. Of equal candidates Least, Shift and Find return the first one, which the tests of P4.2, P4.3 and
// P4.8 check as R8.

// call is what a function is called with, all that any of them needs.
type call struct {
	kinds     int
	rim, list []int
	cuts      []int
	by        int
	touches   int
	length    int
}

// result is what a function returned.
type result struct {
	name   string
	list   []int
	lists  [][]int
	number int64
	e      api.Errno
}

func (r result) equals(other result) bool {
	return r.name == other.name && slices.Equal(r.list, other.list) && slices.EqualFunc(r.lists, other.lists, slices.Equal[[]int]) &&
		r.number == other.number && r.e == other.e
}

func equal(one, other []result) bool { return slices.EqualFunc(one, other, result.equals) }

// all returns the results of all functions, with the same arguments.
func (c call) all() []result {
	var all []result
	add := func(r result) { all = append(all, r) }
	add(result{name: "CheckRim", e: rim.CheckRim(c.kinds, c.rim)})
	list, e := rim.Turn(c.kinds, c.rim, c.by)
	add(result{name: "Turn", list: list, e: e})
	list, number, e := rim.Least(c.kinds, c.rim)
	add(result{name: "Least", list: list, number: int64(number), e: e})
	number, e = rim.Period(c.kinds, c.rim)
	add(result{name: "Period", number: int64(number), e: e})
	number, e = rim.Shift(c.kinds, c.rim, c.list)
	add(result{name: "Shift", number: int64(number), e: e})
	add(result{name: "CheckWords", e: rim.CheckWords(c.kinds, c.rim, c.cuts)})
	list, e = rim.Words(c.kinds, c.rim)
	add(result{name: "Words", list: list, e: e})
	many, e := rim.Count(c.kinds, c.touches)
	add(result{name: "Count", number: many, e: e})
	many, e = rim.Single(c.kinds, c.touches)
	add(result{name: "Single", number: many, e: e})
	lists, e := rim.All(c.kinds, c.touches)
	add(result{name: "All", lists: lists, e: e})
	add(result{name: "CheckRow", e: rim.CheckRow(c.kinds, c.length, c.rim)})
	list, e = rim.Row(c.kinds, c.length)
	add(result{name: "Row", list: list, e: e})
	number, e = rim.Find(c.kinds, c.rim, c.list)
	add(result{name: "Find", number: int64(number), e: e})
	return all
}

// errno returns the error of one of the functions.
func (c call) errno(name string) api.Errno {
	for _, r := range c.all() {
		if r.name == name {
			return r.e
		}
	}
	return -1
}

func goodCall() call {
	return call{2, list(1, 1, 1, 0, 0, 0, 1, 0), list(0, 0, 0, 1, 0, 1, 1, 1), list(0, 1, 2, 3, 7), 3, 5, 3}
}

// call returns one with arguments that often are valid.
func (d *dice) call() call {
	kinds := 1 + d.upTo(api.MaxRimKinds-1)
	touches := d.rims(kinds, []int{5, 9, api.MaxRimTouches}[d.upTo(2)])
	cuts, _ := rim.Words(kinds, touches)
	other := turnedBy(touches, d.upTo(len(touches)-1))[:1+d.upTo(len(touches)-1)]
	return call{kinds, touches, other, cuts, d.upTo(len(touches)), 1 + d.upTo(8), 1 + d.upTo(5)}
}

// R1: ErrArg for the kinds is the error of all functions, whatever else is wrong.
func TestKindsFirst(t *testing.T) {
	for _, kinds := range []int{math.MinInt, -1, 0, 5, 64, math.MaxInt} {
		for _, touches := range [][]int{nil, even(9, 65), list(-1), chapterR()} {
			for _, number := range []int{-1, 0, 3, 99} {
				for _, r := range (call{kinds, touches, touches, list(number), number, number, number}).all() {
					if r.e != api.ErrArg {
						t.Error(kinds, touches, number, r)
					}
				}
			}
		}
	}
}

// R1
func TestOrderOfErrors(t *testing.T) {
	for i, x := range []struct {
		name   string
		change func(c *call)
		e      api.Errno
	}{
		{"CheckRim", func(c *call) { c.rim = even(9, 65) }, api.ErrMany},
		{"Turn", func(c *call) { c.rim, c.by = nil, -1 }, api.ErrMany},
		{"Shift", func(c *call) { c.rim, c.list = list(2), nil }, api.ErrRange},
		{"Shift", func(c *call) { c.rim, c.list = nil, list(2) }, api.ErrMany},
		{"Shift", func(c *call) { c.list = nil }, api.ErrMany},
		{"Shift", func(c *call) { c.list = list(0, 2) }, api.ErrRange},
		{"CheckWords", func(c *call) { c.rim, c.cuts = nil, list(1) }, api.ErrMany},
		{"CheckWords", func(c *call) { c.cuts = list(0, 2, 1) }, api.ErrRange},
		{"CheckWords", func(c *call) { c.cuts = list(0, 4, 8) }, api.ErrRange},
		{"CheckRow", func(c *call) { c.length, c.rim = 0, nil }, api.ErrMany},
		{"CheckRow", func(c *call) { c.length, c.rim = 7, list(9) }, api.ErrMany},
		{"CheckRow", func(c *call) { c.rim = nil }, api.ErrEqual},
		{"CheckRow", func(c *call) { c.rim = list(9) }, api.ErrEqual},
		{"CheckRow", func(c *call) { c.rim = even(9, 65) }, api.ErrEqual},
		{"CheckRow", func(c *call) { c.rim = even(2, 8) }, api.ErrRange},
		{"Find", func(c *call) { c.rim, c.list = list(2), nil }, api.ErrRange},
		{"Find", func(c *call) { c.rim, c.list = nil, list(2) }, api.ErrMany},
		{"Find", func(c *call) { c.list = even(2, 65) }, api.ErrMany},
		{"Find", func(c *call) { c.list = even(1, 9) }, api.ErrRange},
		{"Turn", func(c *call) { c.list, c.cuts, c.touches, c.length = nil, nil, 99, 99 }, api.OK},
		{"Words", func(c *call) { c.list, c.cuts, c.touches, c.length, c.by = nil, nil, 99, 99, 99 }, api.OK},
		{"Count", func(c *call) { c.rim, c.list, c.cuts, c.length, c.by = nil, nil, nil, 99, 99 }, api.OK},
		{"Row", func(c *call) { c.rim, c.list, c.cuts, c.touches, c.by = nil, nil, nil, 99, 99 }, api.OK},
	} {
		c := goodCall()
		x.change(&c)
		if e := c.errno(x.name); e != x.e {
			t.Error(i, x.name, e)
		}
	}
	for _, r := range goodCall().all() {
		if r.e != api.OK {
			t.Error(r)
		}
	}
}

// R2
func TestZeroWithError(t *testing.T) {
	for i, change := range []func(c *call){
		func(c *call) { c.kinds = 5 },
		func(c *call) { c.kinds = 1 },
		func(c *call) { c.kinds, c.touches = 4, 6 },
		func(c *call) { c.rim = nil },
		func(c *call) { c.rim = list(0, 2) },
		func(c *call) { c.rim = even(1, 8) },
		func(c *call) { c.rim = even(1, 65) },
		func(c *call) { c.list = nil },
		func(c *call) { c.list = list(0, 2) },
		func(c *call) { c.list = even(1, 8) },
		func(c *call) { c.list = even(1, 9) },
		func(c *call) { c.cuts = list(0) },
		func(c *call) { c.by = 8 },
		func(c *call) { c.by = -1 },
		func(c *call) { c.touches = 0 },
		func(c *call) { c.touches = 13 },
		func(c *call) { c.length = 0 },
		func(c *call) { c.length = 7 },
		func(c *call) { c.length = 2 },
	} {
		c := goodCall()
		change(&c)
		some := false
		for _, r := range c.all() {
			some = some || r.e != api.OK
			if r.e != api.OK && !r.equals(result{name: r.name, e: r.e}) {
				t.Error(i, r)
			}
		}
		if !some {
			t.Error(i, "no error")
		}
	}
}

// R3
func TestNilAndEmpty(t *testing.T) {
	for _, change := range []func(c *call, empty []int){
		func(c *call, empty []int) { c.rim = empty },
		func(c *call, empty []int) { c.list = empty },
		func(c *call, empty []int) { c.cuts = empty },
		func(c *call, empty []int) { c.rim, c.list, c.cuts = empty, empty, empty },
	} {
		without, with := goodCall(), goodCall()
		change(&without, nil)
		change(&with, list())
		if one, other := without.all(), with.all(); !equal(one, other) {
			t.Error(one, other)
		}
	}
}

// roomy returns a copy of numbers with room behind it that holds -7.
func roomy(numbers []int) []int {
	n := len(numbers)
	return slices.Concat(numbers, even(-7, 20))[:n]
}

// untouched tells whether numbers are as they were, and what is behind them too.
func untouched(roomy, numbers []int) bool {
	n := len(numbers)
	return slices.Equal(roomy, numbers) && slices.Equal(roomy[:n+20][n:], even(-7, 20))
}

// R4
func TestArgumentsUnchanged(t *testing.T) {
	d := dice(6)
	for i := range 300 {
		kept := d.call()
		c := kept
		c.rim, c.list, c.cuts = roomy(kept.rim), roomy(kept.list), roomy(kept.cuts)
		before := c.all()
		if !untouched(c.rim, kept.rim) || !untouched(c.list, kept.list) || !untouched(c.cuts, kept.cuts) {
			t.Fatal(i, "an argument was changed")
		}
		for _, numbers := range [][]int{c.rim, c.list, c.cuts} {
			clear(numbers)
		}
		if !equal(before, kept.all()) {
			t.Fatal(i, "a result shares memory with an argument, or keeps it")
		}
	}
}

// spoil writes over numbers and over all the memory that is theirs.
func spoil(numbers []int) {
	numbers = numbers[:cap(numbers)]
	for i := range numbers {
		numbers[i] = -9
	}
}

// clone returns results with memory of their own.
func clone(results []result) []result {
	results = slices.Clone(results)
	for i, r := range results {
		results[i].list, results[i].lists = slices.Clone(r.list), slices.Clone(r.lists)
		for k, list := range r.lists {
			results[i].lists[k] = slices.Clone(list)
		}
	}
	return results
}

// R4: no result, and no argument, changes when another result is spoilt.
func TestResultsApart(t *testing.T) {
	long, one := goodCall(), goodCall()
	long.kinds, long.rim, long.list, long.cuts, long.touches = 4, even(3, 64), even(3, 64), upTo(64), 5
	one.kinds, one.rim, one.list, one.cuts, one.by, one.length = 1, list(0), list(0), list(0), 0, 6
	for i, c := range []call{goodCall(), long, one} {
		rim, other := slices.Clone(c.rim), slices.Clone(c.list)
		results := c.all()
		kept := clone(results)
		for at, r := range results {
			spoil(r.list)
			for k, list := range r.lists {
				spoil(list)
				if !slices.EqualFunc(r.lists[k+1:], kept[at].lists[k+1:], slices.Equal[[]int]) {
					t.Fatal(i, r.name)
				}
			}
			if !equal(results[at+1:], kept[at+1:]) || !equal(c.all(), kept) {
				t.Error(i, r.name)
			}
		}
		if !slices.Equal(c.rim, rim) || !slices.Equal(c.list, other) {
			t.Error(i, "a result was a part of an argument")
		}
	}
}

// R5, R6 and P1: any value of any argument has a result or an error.
func TestAnyArguments(t *testing.T) {
	wild := []int{math.MinInt, math.MinInt + 1, -1 << 32, -2, -1, 0, 1, 2, 3, 4, 5, 6, 7, 12, 13, 63, 64, 65, 1 << 32, 1<<32 + 1, math.MaxInt - 1, math.MaxInt}
	for _, a := range wild {
		for _, b := range wild {
			checkWild(t, a, b)
			for _, touches := range [][]int{nil, list(a), list(b, a), slices.Repeat(list(0, 1, a), 22)} {
				if many := len((call{b, touches, list(a), list(0, b), a, b, b}).all()); many != 13 {
					t.Error(a, b, many)
				}
				if many := len((call{2, touches, list(a, b), list(b, a), b, a, a}).all()); many != 13 {
					t.Error(a, b, many)
				}
			}
		}
	}
}

// checkWild checks the errors of wild numbers beside others that are valid.
func checkWild(t *testing.T, a, b int) {
	t.Helper()
	inside := func(n, from, to int) bool { return n >= from && n <= to }
	want := func(good bool, bad api.Errno) api.Errno {
		if good {
			return api.OK
		}
		return bad
	}
	if e := rim.CheckRim(3, list(a, b)); e != want(inside(a, 0, 2) && inside(b, 0, 2), api.ErrRange) {
		t.Error("rim", a, b, e)
	}
	if _, e := rim.Turn(2, chapterR(), a); e != want(inside(a, 0, 4), api.ErrRange) {
		t.Error("by", a, e)
	}
	if e := rim.CheckWords(2, chapterR(), list(0, a, b)); (e == api.ErrRange) == (inside(a, 1, b-1) && inside(b, 2, 4)) {
		t.Error("cuts", a, b, e)
	}
	if e := rim.CheckWords(2, list(0, 0, 0), list(a, 1, 2)); e != want(a == 0, api.ErrRange) {
		t.Error("first cut", a, e)
	}
	if _, e := rim.Find(4, list(0, 1, 2, 3, 3, 3), list(a, b)); (e == api.ErrRange) == (inside(a, 0, 3) && inside(b, 0, 3)) {
		t.Error("list", a, b, e)
	}
	counted := want(inside(b, 1, 12), api.ErrMany)
	rows := want(inside(b, 1, 6) && (a == 1 || a == 2 || b <= 3), api.ErrMany)
	if !inside(a, 1, 4) {
		counted, rows = api.ErrArg, api.ErrArg
	}
	if _, e := rim.Count(a, b); e != counted {
		t.Error("Count", a, b, e)
	}
	if _, e := rim.Single(a, b); e != counted {
		t.Error("Single", a, b, e)
	}
	if _, e := rim.All(a, b); e != counted && (counted != api.OK || e != api.ErrMany) {
		t.Error("All", a, b, e)
	}
	if _, e := rim.Row(a, b); e != rows {
		t.Error("Row", a, b, e)
	}
	if e := rim.CheckRow(a, b, nil); e != rows && (rows != api.OK || e != api.ErrEqual) {
		t.Error("CheckRow", a, b, e)
	}
}

// R8, R9: equal calls return equal results.
func TestAgain(t *testing.T) {
	d := dice(7)
	for range 60 {
		c := d.call()
		first := c.all()
		for range 20 {
			if again := c.all(); !equal(first, again) {
				t.Fatal(first, again)
			}
		}
	}
}

// R10
func TestNothingKept(t *testing.T) {
	d := dice(8)
	var calls []call
	var first [][]result
	for range 90 {
		c := d.call()
		calls, first = append(calls, c), append(first, c.all())
	}
	for i, c := range slices.Backward(calls) {
		if !equal(first[i], c.all()) {
			t.Error(c)
		}
	}
}
