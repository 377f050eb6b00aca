package turn_test

import (
	"math"
	"slices"
	"testing"

	"porringer/api"
	"porringer/turn"
)

// The tests of this file are those of the document's rules R1 to R10, and of P1. Layer 9 reads and writes no text, so that
// R7 has no test here. Of equal candidates Clash returns the first one, which the tests of P9.5 check as R8.

// call is what a function is called with, all that any of them needs.
type call struct {
	shops    int
	code     []int
	order    []int
	step     int64
	shop     int
	begun    []int
	one, two int
	number   int64
}

// result is what a function returned.
type result struct {
	name    string
	list    []int
	numbers [2]int64
	e       api.Errno
}

func (r result) equals(other result) bool {
	return r.name == other.name && slices.Equal(r.list, other.list) && r.numbers == other.numbers && r.e == other.e
}

func equal(one, other []result) bool { return slices.EqualFunc(one, other, result.equals) }

// all returns the results of all functions, with the same arguments.
func (c call) all() []result {
	var all []result
	addList := func(name string, list []int, e api.Errno) { all = append(all, result{name: name, list: list, e: e}) }
	add := func(name string, one, other int64, e api.Errno) {
		all = append(all, result{name: name, numbers: [2]int64{one, other}, e: e})
	}
	addList("CheckCode", nil, turn.CheckCode(c.shops, c.code))
	list, e := turn.Order(c.shops, c.code)
	addList("Order", list, e)
	list, e = turn.Code(c.order)
	addList("Code", list, e)
	list, e = turn.Round(c.shops, c.step)
	addList("Round", list, e)
	last, e := turn.Last(c.shops, c.step)
	add("Last", int64(last), 0, e)
	at, e := turn.When(c.shops, c.step, c.shop)
	add("When", int64(at), 0, e)
	step, period, e := turn.Find(c.shops, c.begun)
	add("Find", step, period, e)
	addList("CheckClash", nil, turn.CheckClash(c.shops, c.begun, c.one, c.two))
	one, two, e := turn.Clash(c.shops, c.begun)
	add("Clash", int64(one), int64(two), e)
	number, e := turn.Number(c.order)
	add("Number", number, 0, e)
	list, e = turn.Numbered(c.shops, c.number)
	addList("Numbered", list, e)
	step, e = turn.Wish(c.shops, c.shop)
	add("Wish", step, 0, e)
	return all
}

// errno returns the error of one of the functions.
func (c call) errno(name string) api.Errno {
	for _, r := range c.all() {
		if r.name == name {
			return r.e
		}
	}
	return -1
}

// goodCall returns one of which no function has an error but Find, which has none only if Clash has one.
func goodCall() call {
	return call{5, list(2, 2, 2, 0, 0), list(2, 0, 4, 1, 3), 3, 4, list(0, 1, 2, 4, 3), 1, 3, 52}
}

// call returns one with arguments that are valid.
func (d *dice) call() call {
	shops := 1 + d.upTo(api.MaxTurnShops-1)
	begun := d.begun(shops)
	two := d.upTo(len(begun))
	return call{shops, d.code(shops), d.order(shops), d.step(), d.upTo(shops - 1), begun, d.upTo(two), two, int64(d.upTo(int(productOf(shops)) - 1))}
}

// with returns a call of which something is changed.
func (c call) with(change func(c *call)) call {
	change(&c)
	return c
}

// R1: what is wrong with the number of shops is the error of all functions with shops, whatever else is wrong.
func TestShopsFirst(t *testing.T) {
	for _, shops := range list(math.MinInt, -1, 0, 13, 14, math.MaxInt) {
		for _, wrong := range list(-1, 0, 1, 13, math.MaxInt) {
			for _, many := range list(0, 1, 12, 13, 14) {
				long := slices.Repeat(list(wrong), many)
				c := call{shops, long, list(0), int64(wrong), wrong, long, wrong, wrong, int64(wrong)}
				for _, r := range c.all() {
					want := api.ErrMany
					if r.name == "Code" || r.name == "Number" {
						want = api.OK
					}
					if r.e != want {
						t.Error(shops, wrong, many, r)
					}
				}
			}
		}
	}
}

// R1: then the step's error is that of all functions with a step.
func TestStepNext(t *testing.T) {
	for _, step := range []int64{math.MinInt64, -1, 0, api.MaxTurnStep + 1, math.MaxInt64} {
		for _, shop := range list(-1, 0, 4, 5, 12) {
			for _, r := range goodCall().with(func(c *call) { c.step, c.shop = step, shop }).all() {
				if (r.name == "Round" || r.name == "Last" || r.name == "When") != (r.e == api.ErrArg) {
					t.Error(step, shop, r)
				}
			}
		}
	}
}

// R1: then the error of a beginning is that of all functions with one, whatever else is wrong, and that of an order too.
func TestBeginningNext(t *testing.T) {
	for i, x := range []struct {
		begun []int
		e     api.Errno
	}{
		{list(0, 1, 2, 3, 4, 5), api.ErrMany},
		{list(5, 5, 5, 5, 5, 5), api.ErrMany},
		{list(0, 0, 0, 0, 0, 0), api.ErrMany},
		{list(0, 0, 5), api.ErrRange},
		{list(-1), api.ErrRange},
		{list(5, -1, 5, -1, 5), api.ErrRange},
		{list(0, 1, 3, 4, 0), api.ErrRule},
		{list(2, 2), api.ErrRule},
	} {
		for _, one := range list(-1, 0, 1, 5) {
			for _, two := range list(-1, 0, 1, 5) {
				c := goodCall().with(func(c *call) { c.begun, c.one, c.two = x.begun, one, two })
				for _, name := range []string{"Find", "CheckClash", "Clash"} {
					if e := c.errno(name); e != x.e {
						t.Error(i, one, two, name, e)
					}
				}
			}
		}
	}
	for i, x := range []struct {
		order []int
		e     api.Errno
	}{
		{nil, api.ErrMany},
		{slices.Repeat(list(13), 13), api.ErrMany},
		{make([]int, 13), api.ErrMany},
		{list(0, 0, 3), api.ErrRange},
		{list(-1, -1), api.ErrRange},
		{list(0, 2, 2), api.ErrRule},
	} {
		c := goodCall().with(func(c *call) { c.order = x.order })
		if e, f := c.errno("Code"), c.errno("Number"); e != x.e || f != x.e {
			t.Error(i, e, f)
		}
	}
}

// R1
func TestOrderOfErrors(t *testing.T) {
	for i, x := range []struct {
		name   string
		change func(c *call)
		e      api.Errno
	}{
		{"CheckCode", func(c *call) { c.code = list(5, 5, 5, 5) }, api.ErrEqual},
		{"CheckCode", func(c *call) { c.code = list(-1, 5, 5, 5, 5, 5) }, api.ErrEqual},
		{"Order", func(c *call) { c.code = list(5, 5, 5, 5) }, api.ErrEqual},
		{"Order", func(c *call) { c.code = list(0, 0, 0, 0, 1) }, api.ErrRange},
		{"When", func(c *call) { c.step, c.shop = 0, 5 }, api.ErrArg},
		{"When", func(c *call) { c.shop = 5 }, api.ErrRange},
		{"Wish", func(c *call) { c.step, c.shop = 0, 5 }, api.ErrRange},
		{"Wish", func(c *call) { c.step = 0 }, api.OK},
		{"Round", func(c *call) { c.shop = 5 }, api.OK},
		{"Last", func(c *call) { c.shop = 5 }, api.OK},
		{"CheckClash", func(c *call) { c.one, c.two = 3, 0 }, api.ErrArg},
		{"CheckClash", func(c *call) { c.one, c.two = 0, 3 }, api.ErrSum},
		{"CheckClash", func(c *call) { c.begun, c.one, c.two = list(2, 3), 0, 2 }, api.ErrArg},
		{"CheckClash", func(c *call) { c.begun, c.one, c.two = list(2, 3), 0, 1 }, api.ErrSum},
		{"Clash", func(c *call) { c.begun, c.one, c.two = list(2, 3), 3, 0 }, api.ErrNone},
		{"Clash", func(c *call) { c.one, c.two = 3, 0 }, api.OK},
		{"Find", func(c *call) { c.begun, c.one, c.two, c.step = list(2, 3), 3, 0, 0 }, api.OK},
		{"Find", func(c *call) { c.one, c.two = 3, 0 }, api.ErrNone},
		{"Number", func(c *call) { c.shops, c.number = 0, -1 }, api.OK},
		{"Code", func(c *call) { c.shops, c.code = 0, nil }, api.OK},
		{"Numbered", func(c *call) { c.number = 120 }, api.ErrArg},
		{"Numbered", func(c *call) { c.order = nil }, api.OK},
	} {
		if e := goodCall().with(x.change).errno(x.name); e != x.e {
			t.Error(i, x.name, e)
		}
	}
	for _, r := range goodCall().all() {
		if r.e != api.OK && r.name != "Find" {
			t.Error(r)
		}
	}
}

// R2
func TestZeroWithError(t *testing.T) {
	for i, change := range []func(c *call){
		func(c *call) { c.shops = 0 },
		func(c *call) { c.shops = 13 },
		func(c *call) { c.shops = 4 },
		func(c *call) { c.code = list(0, 0) },
		func(c *call) { c.code = list(0, 0, 0, 0, 1) },
		func(c *call) { c.order = nil },
		func(c *call) { c.order = list(0, 2) },
		func(c *call) { c.order = list(1, 0, 1) },
		func(c *call) { c.step = 0 },
		func(c *call) { c.step = 1<<40 + 1 },
		func(c *call) { c.shop = 5 },
		func(c *call) { c.begun = list(0, 1, 2, 3, 4, 0) },
		func(c *call) { c.begun = list(0, 1, 2, 5) },
		func(c *call) { c.begun = list(0, 1, 2, 0) },
		func(c *call) { c.begun = list(2, 3) },
		func(c *call) { c.one = 4 },
		func(c *call) { c.number = 120 },
	} {
		some := false
		for _, r := range goodCall().with(change).all() {
			some = some || r.e != api.OK && r.name != "Find"
			if r.e != api.OK && !r.equals(result{name: r.name, e: r.e}) {
				t.Error(i, r)
			}
		}
		if !some {
			t.Error(i, "no error")
		}
	}
	if r := goodCall().all()[6]; !r.equals(result{name: "Find", e: api.ErrNone}) {
		t.Error(r)
	}
}

// R3
func TestNilAndEmpty(t *testing.T) {
	for shops := range 14 {
		one := call{shops: shops, step: 1}
		other := call{shops: shops, code: []int{}, order: []int{}, step: 1, begun: []int{}}
		if one, other := one.all(), other.all(); !equal(one, other) {
			t.Error(one, other)
		}
	}
}

// roomy returns a copy of a list with room behind it that is filled.
func roomy(list []int) []int {
	n := len(list)
	return slices.Concat(list, slices.Repeat([]int{-7}, 20))[:n]
}

// untouched tells whether a list is as it was, and what is behind it too.
func untouched(roomy, list []int) bool {
	n := len(list)
	return slices.Equal(roomy, list) && slices.Equal(roomy[:n+20][n:], slices.Repeat([]int{-7}, 20))
}

// spoil writes over numbers and over all the memory that is theirs.
func spoil(numbers []int) {
	numbers = numbers[:cap(numbers)]
	for i := range numbers {
		numbers[i] = -9
	}
}

// R4
func TestArgumentsUnchanged(t *testing.T) {
	d := dice(4)
	for i := range 300 {
		kept := d.call()
		c := kept.with(func(c *call) { c.code, c.order, c.begun = roomy(c.code), roomy(c.order), roomy(c.begun) })
		before := c.all()
		if !untouched(c.code, kept.code) || !untouched(c.order, kept.order) || !untouched(c.begun, kept.begun) {
			t.Fatal(i, "an argument was changed")
		}
		spoil(c.code)
		spoil(c.order)
		spoil(c.begun)
		if !equal(before, kept.all()) {
			t.Fatal(i, "a result shares memory with an argument, or keeps it")
		}
	}
}

// clone returns results with memory of their own.
func clone(results []result) []result {
	results = slices.Clone(results)
	for i, r := range results {
		results[i].list = slices.Clone(r.list)
	}
	return results
}

// R4: no result, and no argument, changes when another result is spoilt.
func TestResultsApart(t *testing.T) {
	d := dice(5)
	for i := range 100 {
		c := d.call()
		if i == 0 {
			c = goodCall()
		}
		code, order, begun := slices.Clone(c.code), slices.Clone(c.order), slices.Clone(c.begun)
		results := c.all()
		kept := clone(results)
		for at, r := range results {
			spoil(r.list)
			if !equal(results[at+1:], kept[at+1:]) || !equal(c.all(), kept) {
				t.Error(i, r.name)
			}
		}
		if !slices.Equal(c.code, code) || !slices.Equal(c.order, order) || !slices.Equal(c.begun, begun) {
			t.Error(i, "a result was a part of an argument")
		}
	}
}

// R5, R6 and P1: any value of any argument has a result or an error.
func TestAnyArguments(t *testing.T) {
	wild := list(math.MinInt, math.MinInt+1, -1<<40, -1<<32, -2, -1, 0, 1, 2, 3, 4, 5, 11, 12, 13, 1<<32, 1<<32+1, 1<<40, 1<<40+1, math.MaxInt-1, math.MaxInt)
	for _, a := range wild {
		for _, b := range wild {
			checkWild(t, a, b)
			for _, numbers := range [][]int{nil, list(a), list(a, b), list(0, b, a), list(b, 1, 0, 0, a)} {
				wide := call{a, numbers, numbers, int64(b), b, numbers, a, b, int64(b)}
				narrow := call{len(numbers), numbers, numbers, int64(a), b, numbers, b, a, int64(a)}
				if len(wide.all()) != 12 || len(narrow.all()) != 12 {
					t.Error(a, b)
				}
			}
		}
	}
}

// checkWild checks the errors of wild numbers beside others that are valid.
func checkWild(t *testing.T, a, b int) {
	t.Helper()
	from := func(lo, hi, number int) bool { return lo <= number && number <= hi }
	noClash := api.ErrArg
	if from(0, 4, a) && from(a+1, 4, b) {
		noClash = api.ErrSum
	}
	good := goodCall()
	for i, x := range []struct {
		name   string
		change func(c *call)
		valid  bool
		e      api.Errno
	}{
		{"Wish", func(c *call) { c.shops, c.shop = a, 0 }, from(1, 12, a), api.ErrMany},
		{"Round", func(c *call) { c.step = int64(a) }, from(1, 1<<40, a), api.ErrArg},
		{"Last", func(c *call) { c.step = int64(a) }, from(1, 1<<40, a), api.ErrArg},
		{"When", func(c *call) { c.shop = a }, from(0, 4, a), api.ErrRange},
		{"Wish", func(c *call) { c.shop = a }, from(0, 4, a), api.ErrRange},
		{"CheckCode", func(c *call) { c.code = list(0, a, b, 0, 0) }, from(0, 3, a) && from(0, 2, b), api.ErrRange},
		{"Order", func(c *call) { c.code = list(a, 0, 0, b, 0) }, from(0, 4, a) && from(0, 1, b), api.ErrRange},
		{"Numbered", func(c *call) { c.number = int64(a) }, from(0, 119, a), api.ErrArg},
		{"CheckClash", func(c *call) { c.one, c.two = a, b }, a == 1 && b == 3, noClash},
	} {
		want := api.OK
		if !x.valid {
			want = x.e
		}
		if e := good.with(x.change).errno(x.name); e != want {
			t.Error(i, x.name, a, b, e)
		}
	}
	if e := good.with(func(c *call) { c.begun = list(1, a, b) }).errno("Clash"); (e == api.ErrRange) != (!from(0, 4, a) || !from(0, 4, b)) || e == api.ErrMany {
		t.Error("Clash", a, b, e)
	}
}

// P1: lists can have any length.
func TestLongArguments(t *testing.T) {
	long := queue(1 << 20)
	c := call{12, long, long, 1 << 40, 11, long, 0, 1, 479001599}
	for name, e := range map[string]api.Errno{"CheckCode": api.ErrEqual, "Order": api.ErrEqual, "Code": api.ErrMany, "Number": api.ErrMany, "Find": api.ErrMany, "CheckClash": api.ErrMany, "Clash": api.ErrMany, "Round": api.OK, "Numbered": api.OK} {
		if f := c.errno(name); f != e {
			t.Error(name, f)
		}
	}
}

// R8, R9: equal calls return equal results, also where a map has many places.
func TestAgain(t *testing.T) {
	d := dice(6)
	for range 100 {
		c := d.call()
		first := c.all()
		for range 10 {
			if again := c.all(); !equal(first, again) {
				t.Fatal(first, again)
			}
		}
	}
}

// R10
func TestNothingKept(t *testing.T) {
	d := dice(7)
	var calls []call
	var first [][]result
	for range 200 {
		c := d.call()
		calls, first = append(calls, c), append(first, c.all())
	}
	for i, c := range slices.Backward(calls) {
		if !equal(first[i], c.all()) {
			t.Error(c)
		}
	}
}
