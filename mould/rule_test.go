package mould_test

import (
	"math"
	"slices"
	"testing"

	"porringer/api"
	"porringer/mould"
)

// The tests of this file are those of the document's rules R1 to R10, and of P1. Layer 2 reads and writes no text, so that
// R7 has no test here. Of equal candidates Days and List return the first one, which the tests of P2.3 and P2.5 check as
// R8; of covers, and of shops that are short, the chapter does not say which one, so that they are only always the same.

// call is what a function is called with, all that any of them needs.
type call struct {
	b             api.MouldBook
	days          []int
	want, day     int
	wants         []int
	shops, moulds []int
}

// result is what a function returned.
type result struct {
	name     string
	one, two []int
	number   int
	e        api.Errno
}

func (r result) equals(other result) bool {
	return r.name == other.name && slices.Equal(r.one, other.one) && slices.Equal(r.two, other.two) && r.number == other.number && r.e == other.e
}

func equal(one, other []result) bool { return slices.EqualFunc(one, other, result.equals) }

// all returns the results of all functions, with the same arguments.
func (c call) all() []result {
	var all []result
	add := func(r result) { all = append(all, r) }
	add(result{name: "CheckBook", e: mould.CheckBook(c.b)})
	one, two, e := mould.Loads(c.b)
	add(result{name: "Loads", one: one, two: two, e: e})
	number, e := mould.CheckDays(c.b, c.days)
	add(result{name: "CheckDays", number: number, e: e})
	number, e = mould.Fewest(c.b)
	add(result{name: "Fewest", number: number, e: e})
	one, e = mould.Days(c.b)
	add(result{name: "Days", one: one, e: e})
	one, e = mould.Chain(c.b, c.days, c.want, c.day)
	add(result{name: "Chain", one: one, e: e})
	one, e = mould.Swap(c.b, c.days, c.want, c.day)
	add(result{name: "Swap", one: one, e: e})
	add(result{name: "CheckList", e: mould.CheckList(c.b, c.wants)})
	one, e = mould.List(c.b)
	add(result{name: "List", one: one, e: e})
	number, e = mould.CheckCover(c.b, c.shops, c.moulds)
	add(result{name: "CheckCover", number: number, e: e})
	one, two, e = mould.Cover(c.b)
	add(result{name: "Cover", one: one, two: two, e: e})
	number, e = mould.CheckShort(c.b, c.shops)
	add(result{name: "CheckShort", number: number, e: e})
	one, e = mould.Short(c.b)
	add(result{name: "Short", one: one, e: e})
	return all
}

// errno returns the error of one of the functions.
func (c call) errno(name string) api.Errno {
	for _, r := range c.all() {
		if r.name == name {
			return r.e
		}
	}
	return -1
}

func goodCall() call {
	return call{chapterB(), list(0, 1, 1, 0, 2), 4, 1, list(0, 3), list(0, 1, 2), list(0, 1)}
}

// R1
func TestOrderOfErrors(t *testing.T) {
	c := call{days: list(99), want: -1, day: -1, wants: list(-1), shops: list(-1), moulds: list(-1)}
	for _, b := range []api.MouldBook{
		book(7, 1, 9, 9),
		book(1, 0, 9, 9),
		book(1, 1, slices.Repeat(list(9, 9), 15)...),
	} {
		c.b = b
		for _, r := range c.all() {
			if r.e != api.ErrMany {
				t.Error(b, r)
			}
		}
	}
	c.b = book(3, 2, 0, 0, 0, 2)
	for _, r := range c.all() {
		if r.e != api.ErrRange {
			t.Error(r)
		}
	}
	for i, x := range []struct {
		name   string
		change func(c *call)
		e      api.Errno
	}{
		{"CheckDays", func(c *call) { c.days = list(0, 0, 14) }, api.ErrEqual},
		{"CheckDays", func(c *call) { c.days = list(0, 0, 1, 1, 14) }, api.ErrRange},
		{"Chain", func(c *call) { c.days, c.want = list(14), 5 }, api.ErrEqual},
		{"Chain", func(c *call) { c.days, c.want = list(0, 0, 1, 1, 14), 5 }, api.ErrRange},
		{"Chain", func(c *call) { c.days, c.want, c.day = list(0, 0, 1, 1, 1), 0, 0 }, api.ErrMould},
		{"Chain", func(c *call) { c.want, c.day = 5, 14 }, api.ErrArg},
		{"Swap", func(c *call) { c.days, c.want = list(14), 5 }, api.ErrEqual},
		{"Swap", func(c *call) { c.days, c.want, c.day = list(0, 0, 1, 1, 1), 0, 0 }, api.ErrMould},
		{"Swap", func(c *call) { c.want, c.day = 5, 14 }, api.ErrArg},
		{"CheckList", func(c *call) { c.wants = list(0, 1, 5) }, api.ErrRange},
		{"CheckList", func(c *call) { c.wants = list(0, 1, 1) }, api.ErrRange},
		{"CheckCover", func(c *call) { c.shops, c.moulds = nil, list(3) }, api.ErrRange},
		{"CheckCover", func(c *call) { c.shops, c.moulds = list(3), nil }, api.ErrRange},
		{"CheckShort", func(c *call) { c.b, c.shops = book(3, 2, 0, 0), list(1, 3) }, api.ErrRange},
		{"CheckShort", func(c *call) { c.b, c.shops = book(3, 2, 0, 0), list(0, 1) }, api.ErrRule},
	} {
		c := goodCall()
		x.change(&c)
		if e := c.errno(x.name); e != x.e {
			t.Error(i, x.name, e)
		}
	}
}

// R2
func TestZeroWithError(t *testing.T) {
	for i, change := range []func(c *call){
		func(c *call) { c.b.Shops = 0 },
		func(c *call) { c.b.Moulds = 1 },
		func(c *call) { c.b = fullBook() },
		func(c *call) { c.days = list(0, 1, 1, 0, 1) },
		func(c *call) { c.days = list(0, 1, 1, 0, -1) },
		func(c *call) { c.want = 5 },
		func(c *call) { c.day = 14 },
		func(c *call) { c.day = 2 },
		func(c *call) { c.wants = list(0, 1) },
		func(c *call) { c.shops = list(0, 1) },
		func(c *call) { c.shops, c.moulds = list(0), list(0) },
		func(c *call) { c.shops, c.moulds = list(3), list(3) },
	} {
		c := goodCall()
		change(&c)
		some := false
		for _, r := range c.all() {
			some = some || r.e != api.OK
			if r.e != api.OK && (len(r.one) > 0 || len(r.two) > 0 || r.number != 0) {
				t.Error(i, r)
			}
		}
		if !some {
			t.Error(i, "no error")
		}
	}
}

// R3
func TestNilAndEmpty(t *testing.T) {
	for _, b := range []api.MouldBook{chapterB(), book(2, 2)} {
		without, with := call{b: b}, call{b: b, days: list(), wants: list(), shops: list(), moulds: list()}
		if len(b.Wants) == 0 {
			without.b.Wants, with.b.Wants = nil, []api.MouldWant{}
		}
		if one, other := without.all(), with.all(); !equal(one, other) {
			t.Error(one, other)
		}
	}
}

// roomy returns a copy of numbers with room behind it that holds -7.
func roomy(numbers []int) []int {
	n := len(numbers)
	return slices.Concat(numbers, slices.Repeat(list(-7), 20))[:n]
}

// untouched tells whether numbers are as they were, and what is behind them too.
func untouched(roomy, numbers []int) bool {
	n := len(numbers)
	return slices.Equal(roomy, numbers) && slices.Equal(roomy[:n+20][n:], slices.Repeat(list(-7), 20))
}

// R4
func TestArgumentsUnchanged(t *testing.T) {
	d := dice(8)
	for i := range 200 {
		b := d.book(6, 6, 14)
		kept := call{b, d.days(b), d.upTo(14), d.upTo(13), d.some(len(b.Wants)), d.some(b.Shops), d.some(b.Moulds)}
		c := kept
		c.b.Wants = append(make([]api.MouldWant, 0, 20), b.Wants...)
		c.days, c.wants, c.shops, c.moulds = roomy(kept.days), roomy(kept.wants), roomy(kept.shops), roomy(kept.moulds)
		before := c.all()
		n := len(b.Wants)
		if !slices.Equal(c.b.Wants, b.Wants) || !slices.Equal(c.b.Wants[:20][n:], make([]api.MouldWant, 20-n)) {
			t.Fatal(i, "the wants were changed")
		}
		if !untouched(c.days, kept.days) || !untouched(c.wants, kept.wants) || !untouched(c.shops, kept.shops) || !untouched(c.moulds, kept.moulds) {
			t.Fatal(i, "an argument was changed")
		}
		clear(c.b.Wants)
		for _, numbers := range [][]int{c.days, c.wants, c.shops, c.moulds} {
			clear(numbers)
		}
		if !equal(before, kept.all()) {
			t.Fatal(i, "a result shares memory with an argument, or keeps it")
		}
	}
}

// spoil writes over numbers and over all the memory that is theirs.
func spoil(numbers []int) {
	numbers = numbers[:cap(numbers)]
	for i := range numbers {
		numbers[i] = -9
	}
}

// R4: no result changes when another one is spoilt.
func TestResultsApart(t *testing.T) {
	for _, b := range []api.MouldBook{chapterB(), chapterC(), fullBook(), book(4, 4, 0, 0, 1, 0, 2, 1, 2, 2)} {
		c := call{b: b, days: mustDays(t, b), day: 13}
		results, kept := c.all(), c.all()
		for i, r := range kept {
			kept[i].one, kept[i].two = slices.Clone(r.one), slices.Clone(r.two)
		}
		for i, r := range results {
			spoil(r.one)
			if !slices.Equal(r.two, kept[i].two) {
				t.Error(b, r.name)
			}
			spoil(r.two)
			if !equal(results[i+1:], kept[i+1:]) || !equal(c.all(), kept) {
				t.Error(b, r.name)
			}
		}
	}
}

// R5, R6 and P1: any value of any argument has a result or an error.
func TestAnyArguments(t *testing.T) {
	wild := []int{math.MinInt, math.MinInt + 1, -1 << 33, -2, -1, 0, 1, 2, 5, 6, 13, 14, 15, 1 << 33, math.MaxInt - 1, math.MaxInt}
	for _, a := range wild {
		for _, b := range wild {
			want := api.ErrMany
			if a >= 1 && a <= 6 && b >= 1 && b <= 6 {
				want = api.OK
			}
			if e := mould.CheckBook(book(a, b)); e != want {
				t.Error(a, b, e)
			}
			for _, wants := range [][]int{nil, {0, 0}, {a, b}, {b, a, 0, 0, a, a}} {
				wide := call{book(a, b, wants...), list(a, b), a, b, list(a, b), list(a, b), list(b, a)}
				narrow := call{book(6, 6, wants...), list(a, b, a), b, a, list(b, a), list(b), list(a)}
				if len(wide.all()) != 13 || len(narrow.all()) != 13 {
					t.Error(a, b)
				}
			}
			checkWild(t, a, b)
		}
	}
}

// checkWild checks the errors of wild numbers with a book that is valid.
func checkWild(t *testing.T, a, b int) {
	t.Helper()
	inside := func(n, end int) bool { return n >= 0 && n < end }
	good := goodCall().b
	two := book(6, 6, 0, 0, 1, 1)
	if _, e := mould.CheckDays(two, list(a, b)); (e == api.OK) != (inside(a, 14) && inside(b, 14)) || e != api.OK && e != api.ErrRange {
		t.Error("days", a, b, e)
	}
	if e := mould.CheckBook(book(6, 5, a, b)); (e == api.OK) != (inside(a, 6) && inside(b, 5)) || e != api.OK && e != api.ErrRange {
		t.Error("want", a, b, e)
	}
	want := api.OK
	switch {
	case !inside(a, 2):
		want = api.ErrArg
	case !inside(b, 14):
		want = api.ErrRange
	case b == 3:
		want = api.ErrRule
	}
	for _, f := range []func(api.MouldBook, []int, int, int) ([]int, api.Errno){mould.Chain, mould.Swap} {
		if _, e := f(two, list(3, 3), a, b); e != want {
			t.Error("swap", a, b, e)
		}
	}
	if e := mould.CheckList(good, list(a, b)); (e == api.ErrRange) == (inside(a, b) && inside(b, 5)) {
		t.Error("list", a, b, e)
	}
	if _, e := mould.CheckCover(good, list(a, b), nil); (e == api.ErrRange) == (inside(a, b) && inside(b, 3)) {
		t.Error("shops of a cover", a, b, e)
	}
	if _, e := mould.CheckCover(good, nil, list(a, b)); (e == api.ErrRange) == (inside(a, b) && inside(b, 3)) {
		t.Error("moulds of a cover", a, b, e)
	}
	if _, e := mould.CheckShort(good, list(a, b)); (e == api.ErrRange) == (inside(a, b) && inside(b, 3)) {
		t.Error("short", a, b, e)
	}
}

// R8, R9: equal calls return equal results.
func TestAgain(t *testing.T) {
	d := dice(9)
	for range 40 {
		b := d.book(6, 6, 14)
		c := call{b, d.days(b), d.upTo(13), d.upTo(13), d.some(len(b.Wants)), d.some(b.Shops), d.some(b.Moulds)}
		first := c.all()
		for range 30 {
			if again := c.all(); !equal(first, again) {
				t.Fatal(first, again)
			}
		}
	}
}

// R10
func TestNothingKept(t *testing.T) {
	d := dice(10)
	var calls []call
	var first [][]result
	for range 60 {
		b := d.book(6, 6, 14)
		c := call{b, d.days(b), d.upTo(13), d.upTo(13), d.some(len(b.Wants)), d.some(b.Shops), d.some(b.Moulds)}
		calls, first = append(calls, c), append(first, c.all())
	}
	for i, c := range slices.Backward(calls) {
		if !equal(first[i], c.all()) {
			t.Error(c)
		}
	}
}
