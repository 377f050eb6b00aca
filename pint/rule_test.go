package pint_test

import (
	"math"
	"slices"
	"testing"

	"porringer/api"
	"porringer/pint"
)

// The tests of this file are those of the document's rules R1 to R10, and of P1. Layer 5 reads and writes no text, so that
// R7 has no test here. Of equal candidates Walls and Best return the nearest and the first one, which the tests of P5.4 and
// P5.6 check as R8; of truths the chapter does not say which one is returned, so that it is only always the same.

// call is what a function is called with, all that any of them needs.
type call struct {
	measure     api.PintMeasure
	dented      api.PintDented
	tilt        int64
	place       int
	left, right int
	side        int
	asked       api.Range
}

// result is what a function returned.
type result struct {
	name     string
	list     []int64
	pools    [][2]int
	one, two int64
	e        api.Errno
}

func (r result) equals(other result) bool {
	return r.name == other.name && slices.Equal(r.list, other.list) && slices.Equal(r.pools, other.pools) &&
		r.one == other.one && r.two == other.two && r.e == other.e
}

func equal(one, other []result) bool { return slices.EqualFunc(one, other, result.equals) }

// all returns the results of all functions, with the same arguments.
func (c call) all() []result {
	var all []result
	add := func(r result) { all = append(all, r) }
	add(result{name: "CheckMeasure", e: pint.CheckMeasure(c.measure)})
	list, e := pint.Depths(c.measure, c.tilt)
	add(result{name: "Depths", list: list, e: e})
	number, e := pint.Holds(c.measure, c.tilt)
	add(result{name: "Holds", one: number, e: e})
	over, e := pint.Over(c.measure, c.tilt, c.place)
	add(result{name: "Over", one: int64(over), e: e})
	pools, e := pint.Pools(c.measure, c.tilt)
	add(result{name: "Pools", pools: pools, e: e})
	number, e = pint.CheckWalls(c.measure, c.tilt, c.place, c.left, c.right)
	add(result{name: "CheckWalls", one: number, e: e})
	left, right, e := pint.Walls(c.measure, c.tilt, c.place)
	add(result{name: "Walls", one: int64(left), two: int64(right), e: e})
	number, e = pint.CheckOut(c.measure, c.tilt, c.place, c.side)
	add(result{name: "CheckOut", one: number, e: e})
	place, number, e := pint.Best(c.measure, c.tilt)
	add(result{name: "Best", one: int64(place), two: number, e: e})
	add(result{name: "CheckDented", e: pint.CheckDented(c.dented)})
	span, e := pint.Span(c.dented, c.tilt)
	add(result{name: "Span", one: span.Lo, two: span.Hi, e: e})
	sealed, e := pint.Seal(c.dented, c.tilt, c.asked)
	add(result{name: "Seal", one: int64(sealed), e: e})
	list, e = pint.Right(c.dented, c.tilt, c.asked)
	add(result{name: "Right", list: list, e: e})
	list, e = pint.Wrong(c.dented, c.tilt, c.asked)
	add(result{name: "Wrong", list: list, e: e})
	return all
}

// errno returns the error of one of the functions.
func (c call) errno(name string) api.Errno {
	for _, r := range c.all() {
		if r.name == name {
			return r.e
		}
	}
	return -1
}

// ofDented tells which functions have a dented measure.
func ofDented(name string) bool {
	return slices.Contains([]string{"CheckDented", "Span", "Seal", "Right", "Wrong"}, name)
}

func goodCall() call { return call{chapterM(), chapterD(), 0, 1, -1, 3, api.PintRight, from(9, 12)} }

// call returns one with arguments that are valid.
func (d *dice) call() call {
	most := []int{3, 20, api.MaxPintHeight}[d.upTo(2)]
	c := call{measure: d.measure(api.MaxPintPlaces, most), dented: d.dented(2, most), tilt: d.tilt(), side: 1 + d.upTo(1)}
	n := len(c.measure.Heights)
	c.place = d.upTo(n - 1)
	c.left, c.right = d.upTo(c.place+1)-1, c.place+d.upTo(n-c.place)
	c.asked = d.asked(numbersOf(c.dented, c.tilt))
	return c
}

// R1: the error of the measure is that of all functions that have it, whatever else is wrong; so is that of the dented one.
func TestMeasureFirst(t *testing.T) {
	for _, x := range []struct {
		measure api.PintMeasure
		dented  api.PintDented
		e       api.Errno
	}{
		{measure(-1, 0), dented(-1, 0), api.ErrMany},
		{even(0, 0, 101, 9), dented(0, 0, 0, 11, 0, 0, 0, 0, 0, 0, 1, 0), api.ErrMany},
		{measure(0, 0, 0, -1), dented(0, 0, 0, 0, 1, 0), api.ErrRange},
		{measure(0, 101, 0), dented(101, 0, 0, 0), api.ErrRange},
	} {
		for _, wrong := range []int{-100, -3, 0, 100} {
			for _, r := range (call{x.measure, x.dented, int64(wrong), wrong, wrong, wrong, wrong, from(1, 0)}).all() {
				if r.e != x.e {
					t.Error(x.measure, x.dented, wrong, r)
				}
			}
		}
	}
}

// R1
func TestOrderOfErrors(t *testing.T) {
	for i, x := range []struct {
		name   string
		change func(c *call)
		e      api.Errno
	}{
		{"CheckMeasure", func(c *call) { c.measure = measure(-1, 101) }, api.ErrMany},
		{"CheckDented", func(c *call) { c.dented = dented(-1, 101) }, api.ErrMany},
		{"Over", func(c *call) { c.tilt, c.place = 21, 3 }, api.ErrRange},
		{"Over", func(c *call) { c.tilt, c.place = 1, 1 }, api.ErrNone},
		{"CheckWalls", func(c *call) { c.tilt, c.place = 21, 3 }, api.ErrRange},
		{"CheckWalls", func(c *call) { c.tilt, c.left = 21, 2 }, api.ErrRange},
		{"Walls", func(c *call) { c.tilt, c.place = -21, -1 }, api.ErrRange},
		{"CheckOut", func(c *call) { c.tilt, c.place = -21, 3 }, api.ErrRange},
		{"CheckOut", func(c *call) { c.tilt, c.side = -21, 3 }, api.ErrRange},
		{"CheckOut", func(c *call) { c.side = 3 }, api.ErrArg},
		{"Seal", func(c *call) { c.dented, c.asked = dented(0, 0), from(1, 0) }, api.ErrMany},
		{"Right", func(c *call) { c.dented, c.tilt = dented(0, 0), 21 }, api.ErrMany},
		{"Right", func(c *call) { c.asked = from(12, 11) }, api.ErrRange},
		{"Wrong", func(c *call) { c.asked = from(10, 7) }, api.ErrRange},
		{"Wrong", func(c *call) { c.tilt, c.asked = 21, from(0, 99) }, api.ErrRange},
		{"Depths", func(c *call) { c.dented, c.place, c.asked = dented(0, 0), 9, from(1, 0) }, api.OK},
		{"Best", func(c *call) { c.dented, c.place, c.asked = dented(0, 0), 9, from(1, 0) }, api.OK},
		{"Walls", func(c *call) { c.dented, c.left, c.right, c.side = dented(0, 0), 9, 9, 9 }, api.OK},
		{"CheckOut", func(c *call) { c.dented, c.left, c.right = dented(0, 0), 9, 9 }, api.OK},
		{"Span", func(c *call) { c.measure, c.place, c.asked = measure(0, 0), 9, from(1, 0) }, api.OK},
		{"Seal", func(c *call) { c.measure, c.place = measure(0, 0), 9 }, api.OK},
	} {
		c := goodCall()
		x.change(&c)
		if e := c.errno(x.name); e != x.e {
			t.Error(i, x.name, e)
		}
	}
	for _, r := range goodCall().all() {
		if r.e != api.OK {
			t.Error(r)
		}
	}
}

// R2
func TestZeroWithError(t *testing.T) {
	for i, change := range []func(c *call){
		func(c *call) { c.measure = measure(5, 4) },
		func(c *call) { c.measure = even(5, 4, 1, 9) },
		func(c *call) { c.measure = measure(5, 4, 0, 101, 0) },
		func(c *call) { c.measure = measure(5, 4, 1) },
		func(c *call) { c.dented = dented(5, 4) },
		func(c *call) { c.dented = dented(5, 4, 0, 1, 2, 13) },
		func(c *call) { c.tilt = 21 },
		func(c *call) { c.tilt = -21 },
		func(c *call) { c.tilt = 1 },
		func(c *call) { c.place = 3 },
		func(c *call) { c.place = -1 },
		func(c *call) { c.left = 2 },
		func(c *call) { c.right = 0 },
		func(c *call) { c.side = api.PintBoth },
		func(c *call) { c.asked = from(12, 9) },
		func(c *call) { c.asked = from(11, 12) },
		func(c *call) { c.asked = from(7, 10) },
	} {
		c := goodCall()
		change(&c)
		some := false
		for _, r := range c.all() {
			some = some || r.e != api.OK
			if r.e != api.OK && !r.equals(result{name: r.name, e: r.e}) {
				t.Error(i, r)
			}
		}
		if !some {
			t.Error(i, "no error")
		}
	}
}

// R3
func TestNilAndEmpty(t *testing.T) {
	without, with := goodCall(), goodCall()
	without.measure.Heights, without.dented.Heights = nil, nil
	with.measure.Heights, with.dented.Heights = []int64{}, []api.Range{}
	if one, other := without.all(), with.all(); !equal(one, other) {
		t.Error(one, other)
	}
}

// roomy returns a copy of a list with room behind it that is filled.
func roomy[T any](list []T, filled T) []T {
	n := len(list)
	return slices.Concat(list, slices.Repeat([]T{filled}, 20))[:n]
}

// untouched tells whether a list is as it was, and what is behind it too.
func untouched[T comparable](roomy, list []T, filled T) bool {
	n := len(list)
	return slices.Equal(roomy, list) && slices.Equal(roomy[:n+20][n:], slices.Repeat([]T{filled}, 20))
}

// R4
func TestArgumentsUnchanged(t *testing.T) {
	d := dice(4)
	for i := range 300 {
		kept := d.call()
		c := kept
		c.measure.Heights = roomy(kept.measure.Heights, -7)
		c.dented.Heights = roomy(kept.dented.Heights, from(-7, -9))
		before := c.all()
		if !untouched(c.measure.Heights, kept.measure.Heights, -7) || !untouched(c.dented.Heights, kept.dented.Heights, from(-7, -9)) {
			t.Fatal(i, "an argument was changed")
		}
		clear(c.measure.Heights)
		clear(c.dented.Heights)
		if !equal(before, kept.all()) {
			t.Fatal(i, "a result shares memory with an argument, or keeps it")
		}
	}
}

// spoil writes over a list and over all the memory that is its own.
func spoil[T any](list []T, with T) {
	list = list[:cap(list)]
	for i := range list {
		list[i] = with
	}
}

// clone returns results with memory of their own.
func clone(results []result) []result {
	results = slices.Clone(results)
	for i, r := range results {
		results[i].list, results[i].pools = slices.Clone(r.list), slices.Clone(r.pools)
	}
	return results
}

// R4: no result, and no argument, changes when another result is spoilt.
func TestResultsApart(t *testing.T) {
	d := dice(5)
	for i := range 60 {
		c := d.call()
		if i == 0 {
			c = goodCall()
		}
		m, one := cloned(c.measure), slices.Clone(c.dented.Heights)
		results := c.all()
		kept := clone(results)
		for at, r := range results {
			spoil(r.list, -9)
			spoil(r.pools, [2]int{-9, -9})
			if !equal(results[at+1:], kept[at+1:]) || !equal(c.all(), kept) {
				t.Error(i, r.name)
			}
		}
		if !slices.Equal(c.measure.Heights, m.Heights) || !slices.Equal(c.dented.Heights, one) {
			t.Error(i, "a result was a part of an argument")
		}
	}
}

// R5, R6 and P1: any value of any argument has a result or an error, and no sum runs over.
func TestAnyArguments(t *testing.T) {
	wild := list(math.MinInt64, math.MinInt64+1, -1<<53, -101, -21, -20, -2, -1, 0, 1, 2, 3, 10, 11, 20, 21, 100, 101, 1<<32, 1<<32+1, 1<<53+1, math.MaxInt64-11, math.MaxInt64-1, math.MaxInt64)
	for _, a := range wild {
		for _, b := range wild {
			checkWild(t, a, b)
			c := call{measure(a, b, b, a), dented(a, b, a, b, b, a), a, int(b), int(a), int(b), int(a), from(a, b)}
			if many := len(c.all()); many != 14 {
				t.Error(a, b, many)
			}
		}
	}
}

// checkWild checks the errors of wild numbers beside others that are valid.
func checkWild(t *testing.T, a, b int64) {
	t.Helper()
	inside := func(lo, hi int64, numbers ...int64) bool {
		return slices.Min(numbers) >= lo && slices.Max(numbers) <= hi
	}
	want := func(good bool) api.Errno {
		if good {
			return api.OK
		}
		return api.ErrRange
	}
	for _, m := range []api.PintMeasure{measure(a, 0, b), measure(b, a, 0), measure(1, 2, 3, a, b), measure(0, 0, b, 1, a)} {
		if e := pint.CheckMeasure(m); e != want(inside(0, 100, a, b)) {
			t.Error("measure", m, e)
		}
	}
	if e := pint.CheckDented(dented(a, b, 0, 0)); e != want(inside(0, 100, a, b)) {
		t.Error("sides", a, b, e)
	}
	isDent := inside(0, 100, a, b) && inside(0, 10, b-a)
	for _, d := range []api.PintDented{dented(0, 0, a, b), dented(1, 2, 0, 0, 3, 4, a, b)} {
		if e := pint.CheckDented(d); e != want(isDent) {
			t.Error("dents", d, e)
		}
	}
	c := goodCall()
	c.place, c.asked = int(a), from(a, b)
	if e := c.errno("Walls"); (e == api.OK) != inside(0, 2, a) || e != api.OK && e != api.ErrArg {
		t.Error("place", a, e)
	}
	if e := c.errno("Seal"); e != want(a <= b) {
		t.Error("asked", a, b, e)
	}
	c.place, c.left, c.right, c.side = 1, int(a), int(b), int(a)
	if e := c.errno("CheckWalls"); (e == api.OK) != (inside(-1, 1, a) && inside(1, 3, b)) || e != api.OK && e != api.ErrArg {
		t.Error("walls", a, b, e)
	}
	if e := c.errno("CheckOut"); (e == api.OK) != inside(1, 2, a) || e != api.OK && e != api.ErrArg {
		t.Error("side", a, e)
	}
	c.tilt = a
	for _, r := range c.all() {
		if (r.e == api.ErrRange) != (!inside(-20, 20, a) && r.name != "CheckMeasure" && r.name != "CheckDented" || a > b && ofDented(r.name) && r.name != "CheckDented" && r.name != "Span") {
			t.Error("tilt", a, b, r)
		}
	}
}

// R8, R9: equal calls return equal results, also where many truths are as good.
func TestAgain(t *testing.T) {
	d := dice(6)
	for i := range 40 {
		c := d.call()
		if i < 2 {
			c.dented, c.tilt, c.asked = wide(), 0, from(0, int64(20+i*60))
		}
		first := c.all()
		for range 10 {
			if again := c.all(); !equal(first, again) {
				t.Fatal(first, again)
			}
		}
	}
}

// R10
func TestNothingKept(t *testing.T) {
	d := dice(7)
	var calls []call
	var first [][]result
	for range 90 {
		c := d.call()
		calls, first = append(calls, c), append(first, c.all())
	}
	for i, c := range slices.Backward(calls) {
		if !equal(first[i], c.all()) {
			t.Error(c)
		}
	}
}
