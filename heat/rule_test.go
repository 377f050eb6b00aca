package heat_test

import (
	"math"
	"slices"
	"strings"
	"testing"

	"porringer/api"
	"porringer/heat"
)

// The tests of this file are those of the document's rules R1 to R10, and of P1. Of equal candidates only Plan returns the
// first one, which the tests of P7.3 check as R8.

// call is what a function is called with, all that any of them needs.
type call struct {
	m                  api.HeatMould
	from, casts        int
	plan, first, again string
	labels             []int
	span               api.Range
}

// result is what a function returned.
type result struct {
	name          string
	list          []int
	text, another string
	one, other    int64
	e             api.Errno
}

func (r result) equals(other result) bool {
	sameTexts := r.text == other.text && r.another == other.another
	return r.name == other.name && slices.Equal(r.list, other.list) && sameTexts && r.one == other.one && r.other == other.other && r.e == other.e
}

func equal(one, other []result) bool { return slices.EqualFunc(one, other, result.equals) }

// all returns the results of all functions, with the same arguments.
func (c call) all() []result {
	var all []result
	add := func(r result) { all = append(all, r) }
	add(result{name: "CheckMould", e: heat.CheckMould(c.m)})
	behind, casts, e := heat.Run(c.m, c.from, c.plan)
	add(result{name: "Run", one: int64(behind), other: int64(casts), e: e})
	number, e := heat.Fewest(c.m, c.from, c.casts)
	add(result{name: "Fewest", one: int64(number), e: e})
	plan, e := heat.Plan(c.m, c.from, c.casts)
	add(result{name: "Plan", text: plan, e: e})
	number, e = heat.Most(c.m, c.from)
	add(result{name: "Most", one: int64(number), e: e})
	add(result{name: "CheckLabels", e: heat.CheckLabels(c.m, c.labels)})
	labels, e := heat.Labels(c.m)
	add(result{name: "Labels", list: labels, e: e})
	r, e := heat.CheckRound(c.m, c.from, c.first, c.again)
	add(result{name: "CheckRound", one: r.Num, other: r.Den, e: e})
	first, again, e := heat.Round(c.m, c.from)
	add(result{name: "Round", text: first, another: again, e: e})
	r, e = heat.Rate(c.m, c.from)
	add(result{name: "Rate", one: r.Num, other: r.Den, e: e})
	heats, e := heat.RunAll(c.m, c.span, c.plan)
	add(result{name: "RunAll", one: heats.Lo, other: heats.Hi, e: e})
	plan, e = heat.Surely(c.m, c.span, c.casts)
	add(result{name: "Surely", text: plan, e: e})
	return all
}

// errno returns the error of one of the functions.
func (c call) errno(name string) api.Errno {
	for _, r := range c.all() {
		if r.name == name {
			return r.e
		}
	}
	return -1
}

// goodCall returns one of which no function has an error but Most, which cannot have none if Round has none.
func goodCall() call {
	return call{chapterM(), 3, 4, "ccw", "ccw", "cw", list(0, 0, -1, -1, -1, -1, -1, -1), span(2, 3)}
}

// call returns one with arguments that are valid.
func (d *dice) call() call {
	m := d.mould(1 + d.upTo(api.MaxHeatDegrees-1))
	from := d.upTo(len(m.Casts) - 1)
	round := d.works(m, from, 30)
	cut := d.upTo(len(round))
	return call{m, from, d.upTo(12), d.works(m, from, 30), round[:cut], round[cut:], d.labels(m), d.span(m)}
}

// with returns a call of which something is changed.
func (c call) with(change func(c *call)) call {
	change(&c)
	return c
}

// R1: the mould's error is that of all functions, whatever else is wrong.
func TestMouldFirst(t *testing.T) {
	long := strings.Repeat("x", 501)
	wrong := call{api.HeatMould{}, -1, -1, long, long, long, list(-2), span(1, 0)}
	for i, x := range []struct {
		m api.HeatMould
		e api.Errno
	}{
		{api.HeatMould{}, api.ErrMany},
		{mould(make([]int, 17), make([]int, 17), 0, 0), api.ErrMany},
		{mould(list(0), nil, 0, 0), api.ErrEqual},
		{mould(list(0), list(1), 0, 0), api.ErrRange},
		{mould(list(0), list(0), 0, 1), api.ErrRange},
		{mould(list(0, 0), list(0, 0), 0, 0), api.ErrRule},
		{mould(list(1, 1), list(0, 0), 1, 0), api.ErrRule},
	} {
		for _, c := range []call{wrong.with(func(c *call) { c.m = x.m }), goodCall().with(func(c *call) { c.m = x.m })} {
			for _, r := range c.all() {
				if !r.equals(result{name: r.name, e: x.e}) {
					t.Error(i, r)
				}
			}
		}
	}
}

// R1
func TestOrderOfErrors(t *testing.T) {
	long := strings.Repeat("x", 501)
	for i, x := range []struct {
		name   string
		change func(c *call)
		e      api.Errno
	}{
		{"Run", func(c *call) { c.from, c.plan = 8, long }, api.ErrArg},
		{"Run", func(c *call) { c.plan = long }, api.ErrLong},
		{"Run", func(c *call) { c.plan = "cccccx" }, api.ErrForm},
		{"Run", func(c *call) { c.plan = "ccccc" }, api.ErrHeat},
		{"Fewest", func(c *call) { c.from, c.casts = 0, 31 }, api.ErrArg},
		{"Fewest", func(c *call) { c.from = 0 }, api.ErrHeat},
		{"Plan", func(c *call) { c.from, c.casts = 0, -1 }, api.ErrArg},
		{"Plan", func(c *call) { c.from = 0 }, api.ErrHeat},
		{"Most", func(c *call) { c.from = 8 }, api.ErrArg},
		{"Most", func(c *call) {}, api.ErrOver},
		{"CheckLabels", func(c *call) { c.labels = list(31) }, api.ErrEqual},
		{"CheckLabels", func(c *call) { c.labels = list(0, 0, -1, 9, 9, 9, 9, 31) }, api.ErrRange},
		{"CheckLabels", func(c *call) { c.labels = list(0, 0, -1, 9, 9, 9, 9, 9) }, api.ErrSum},
		{"CheckRound", func(c *call) { c.from, c.first = -1, long }, api.ErrArg},
		{"CheckRound", func(c *call) { c.first, c.again = long, "x" }, api.ErrLong},
		{"CheckRound", func(c *call) { c.first, c.again = "cccccx", long }, api.ErrForm},
		{"CheckRound", func(c *call) { c.first, c.again = "ccccc", long }, api.ErrHeat},
		{"CheckRound", func(c *call) { c.again = long }, api.ErrLong},
		{"CheckRound", func(c *call) { c.again = "cccccx" }, api.ErrForm},
		{"CheckRound", func(c *call) { c.again = "ccccc" }, api.ErrHeat},
		{"CheckRound", func(c *call) { c.again = "c" }, api.ErrSum},
		{"Round", func(c *call) { c.from = 8 }, api.ErrArg},
		{"Round", func(c *call) { c.from = 0 }, api.ErrHeat},
		{"Rate", func(c *call) { c.from = 8 }, api.ErrArg},
		{"Rate", func(c *call) { c.from = 0 }, api.ErrHeat},
		{"RunAll", func(c *call) { c.span, c.plan = span(2, 8), long }, api.ErrRange},
		{"RunAll", func(c *call) { c.plan = long }, api.ErrLong},
		{"RunAll", func(c *call) { c.plan = "cccccx" }, api.ErrForm},
		{"RunAll", func(c *call) { c.plan = "ccccc" }, api.ErrHeat},
		{"Surely", func(c *call) { c.span, c.casts = span(3, 2), 31 }, api.ErrRange},
		{"Surely", func(c *call) { c.span, c.casts = span(0, 7), 31 }, api.ErrArg},
		{"Surely", func(c *call) { c.span = span(0, 7) }, api.ErrHeat},
		{"Labels", func(c *call) { c.from, c.casts, c.plan, c.labels, c.span = 8, 31, long, nil, span(8, 7) }, api.OK},
		{"CheckLabels", func(c *call) { c.from, c.casts, c.plan, c.span = 8, 31, long, span(8, 7) }, api.OK},
		{"RunAll", func(c *call) { c.from, c.casts, c.labels, c.first = 8, 31, nil, long }, api.OK},
		{"Surely", func(c *call) { c.from, c.labels, c.plan, c.first = 8, nil, long, long }, api.OK},
		{"Plan", func(c *call) { c.labels, c.plan, c.first, c.span = nil, long, long, span(8, 7) }, api.OK},
		{"CheckRound", func(c *call) { c.casts, c.labels, c.plan, c.span = 31, nil, long, span(8, 7) }, api.OK},
	} {
		if e := goodCall().with(x.change).errno(x.name); e != x.e {
			t.Error(i, x.name, e)
		}
	}
	for _, r := range goodCall().all() {
		if r.e != api.OK && r.name != "Most" {
			t.Error(r)
		}
	}
}

// R2
func TestZeroWithError(t *testing.T) {
	for i, change := range []func(c *call){
		func(c *call) { c.m.Lo = 6 },
		func(c *call) { c.from = 8 },
		func(c *call) { c.from = 0 },
		func(c *call) { c.casts = 31 },
		func(c *call) { c.m = chapterN() },
		func(c *call) { c.plan = "ccwx" },
		func(c *call) { c.plan = "ccwcc" },
		func(c *call) { c.plan = strings.Repeat("cw", 251) },
		func(c *call) { c.first = "ccc" },
		func(c *call) { c.again = "ccc" },
		func(c *call) { c.again = "cwc" },
		func(c *call) { c.again = "" },
		func(c *call) { c.labels = c.labels[:7] },
		func(c *call) { c.labels[7] = 31 },
		func(c *call) { c.labels[7] = 0 },
		func(c *call) { c.span = span(3, 2) },
		func(c *call) { c.span = span(0, 7) },
	} {
		some := 0
		for _, r := range goodCall().with(change).all() {
			if r.e != api.OK {
				some++
			}
			if r.e != api.OK && !r.equals(result{name: r.name, e: r.e}) {
				t.Error(i, r)
			}
		}
		if some < 2 {
			t.Error(i, "no error")
		}
	}
}

// R3
func TestNilAndEmpty(t *testing.T) {
	without, with := goodCall(), goodCall()
	without.labels, with.labels = nil, []int{}
	if one, other := without.all(), with.all(); !equal(one, other) {
		t.Error(one, other)
	}
	for _, numbers := range [][]int{nil, list(0), make([]int, 17)} {
		for _, x := range []struct{ without, with api.HeatMould }{
			{mould(nil, numbers, 0, 0), mould([]int{}, numbers, 0, 0)},
			{mould(numbers, nil, 0, 0), mould(numbers, []int{}, 0, 0)},
		} {
			without.m, with.m = x.without, x.with
			if one, other := without.all(), with.all(); !equal(one, other) {
				t.Error(one, other)
			}
		}
	}
}

// roomy returns a copy of a list with room behind it that is filled.
func roomy(list []int) []int {
	n := len(list)
	return slices.Concat(list, slices.Repeat([]int{-7}, 20))[:n]
}

// untouched tells whether a list is as it was, and what is behind it too.
func untouched(roomy, list []int) bool {
	n := len(list)
	return slices.Equal(roomy, list) && slices.Equal(roomy[:n+20][n:], slices.Repeat([]int{-7}, 20))
}

// spoil writes over numbers and over all the memory that is theirs.
func spoil(numbers []int) {
	numbers = numbers[:cap(numbers)]
	for i := range numbers {
		numbers[i] = -9
	}
}

// R4
func TestArgumentsUnchanged(t *testing.T) {
	d := dice(4)
	for i := range 300 {
		kept := d.call()
		c := kept
		c.m.Casts, c.m.Waits, c.labels = roomy(kept.m.Casts), roomy(kept.m.Waits), roomy(kept.labels)
		before := c.all()
		if !untouched(c.m.Casts, kept.m.Casts) || !untouched(c.m.Waits, kept.m.Waits) || !untouched(c.labels, kept.labels) {
			t.Fatal(i, "an argument was changed")
		}
		spoil(c.m.Casts)
		spoil(c.m.Waits)
		spoil(c.labels)
		if !equal(before, kept.all()) {
			t.Fatal(i, "a result shares memory with an argument, or keeps it")
		}
	}
}

// R4: no result, and no argument, changes when another result is spoilt.
func TestResultsApart(t *testing.T) {
	d := dice(5)
	for i := range 100 {
		c := d.call()
		kept, labels := cloned(c.m), slices.Clone(c.labels)
		one, _ := heat.Labels(c.m)
		other, _ := heat.Labels(c.m)
		want := slices.Clone(other)
		spoil(one)
		again, _ := heat.Labels(c.m)
		if !slices.Equal(other, want) || !slices.Equal(again, want) {
			t.Error(i, "results share memory")
		}
		if !sameMould(c.m, kept) || !slices.Equal(c.labels, labels) {
			t.Error(i, "a result was a part of an argument")
		}
	}
}

// R5, R6 and P1: any value of any argument has a result or an error.
func TestAnyArguments(t *testing.T) {
	wild := list(math.MinInt, math.MinInt+1, -1<<33, -2, -1, 0, 1, 2, 5, 7, 8, 9, 15, 16, 17, 30, 31, 500, 501, 1<<32, 1<<33+1, math.MaxInt-1, math.MaxInt)
	texts := []string{"", "c", "w", "cw", "ccwcw", "x", "\xff\xfe", "cé", strings.Repeat("w", 500), strings.Repeat("c", 501)}
	for i, a := range wild {
		for _, b := range wild {
			checkWild(t, a, b)
			text, another := texts[i%len(texts)], texts[(i+3)%len(texts)]
			for _, m := range []api.HeatMould{chapterM(), slowMould(), mould(list(a, b), list(b, a), a, b), mould(list(1, 1), list(0, 1), a, b), mould(list(a), list(b), 0, 0)} {
				c := call{m, a, b, text, another, text, list(a, b), span(int64(a), int64(b))}
				if len(c.all()) != 12 {
					t.Error(a, b)
				}
			}
		}
	}
}

// checkWild checks the errors of wild numbers beside others that are valid.
func checkWild(t *testing.T, a, b int) {
	t.Helper()
	within := func(number, most int) bool { return 0 <= number && number <= most }
	want := func(good bool, e api.Errno) api.Errno {
		if good {
			return api.OK
		}
		return e
	}
	bounds := want(within(a, 7) && within(b, 7), api.ErrRange)
	if bounds == api.OK {
		bounds = want(a <= b, api.ErrRule)
	}
	if e := heat.CheckMould(changed(func(m *api.HeatMould) { m.Lo, m.Hi = a, b })); e != bounds {
		t.Error("bounds", a, b, e)
	}
	if e := heat.CheckMould(mould(list(a), list(b), 0, 0)); e != want(a == 0 && b == 0, api.ErrRange) {
		t.Error("becomes", a, b, e)
	}
	c := goodCall().with(func(c *call) { c.from, c.casts, c.plan, c.first, c.again = a, b, "w", "ww", "w" })
	for name, good := range map[string]bool{"Run": within(a, 7), "Fewest": within(a, 7) && within(b, 30), "Round": within(a, 7), "Rate": within(a, 7)} {
		if e := c.errno(name); (e == api.ErrArg) == good {
			t.Error(name, a, b, e)
		}
	}
	c.span = span(int64(a), int64(b))
	if e := c.errno("RunAll"); e != want(within(a, b) && within(b, 7), api.ErrRange) {
		t.Error("RunAll", a, b, e)
	}
	c.m, c.labels = mould(list(1, 1), list(0, 1), 0, 0), list(a, b)
	if e := c.errno("CheckLabels"); (e == api.ErrRange) == (within(a+1, 31) && within(b+1, 31)) {
		t.Error("CheckLabels", a, b, e)
	}
}

// P1: lists and plans can have any length.
func TestLongArguments(t *testing.T) {
	long := make([]int, 1<<20)
	text := strings.Repeat("cw", 1<<20)
	c := goodCall().with(func(c *call) { c.plan, c.first, c.again, c.labels = text, text, text, long })
	for name, e := range map[string]api.Errno{"Run": api.ErrLong, "RunAll": api.ErrLong, "CheckRound": api.ErrLong, "CheckLabels": api.ErrEqual} {
		if got := c.errno(name); got != e {
			t.Error(name, got)
		}
	}
	if e := heat.CheckMould(mould(long, long, 0, 0)); e != api.ErrMany {
		t.Error(e)
	}
	if e := heat.CheckMould(mould(list(0), long, 0, 0)); e != api.ErrEqual {
		t.Error(e)
	}
}

// R7: what is written as a plan is read as one.
func TestPlansAreRead(t *testing.T) {
	d := dice(6)
	for range 300 {
		c := d.call()
		for _, r := range c.all() {
			for _, plan := range []string{r.text, r.another} {
				if _, _, e := heat.Run(c.m, c.from, plan); e == api.ErrLong || e == api.ErrForm {
					t.Error(c, r, e)
				}
			}
		}
	}
}

// R9: equal calls return equal results, also where a map has many plans.
func TestAgain(t *testing.T) {
	d := dice(7)
	for i := range 40 {
		c := d.call()
		if i < 2 {
			c.m, c.span = []api.HeatMould{chapterM(), oddMould()}[i], span(2, 3)
		}
		first := c.all()
		for range 20 {
			if again := c.all(); !equal(first, again) {
				t.Fatal(first, again)
			}
		}
	}
}

// R10
func TestNothingKept(t *testing.T) {
	d := dice(8)
	var calls []call
	var first [][]result
	for range 90 {
		c := d.call()
		calls, first = append(calls, c), append(first, c.all())
	}
	for i, c := range slices.Backward(calls) {
		if !equal(first[i], c.all()) {
			t.Error(c)
		}
	}
}
