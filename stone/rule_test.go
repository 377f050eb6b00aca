package stone_test

import (
	"math"
	"slices"
	"testing"

	"porringer/api"
	"porringer/stone"
)

// The tests of this file are those of the document's rules R1 to R10, and of P1. Layer 10 reads and writes no text, so that R7
// has no test here. Of lays that use as few weights Lay returns the first one, which the tests of P10.4 check as R8.

// call is what a function is called with, all that any of them needs.
type call struct {
	set    []api.StoneKind
	pans   int
	lay    []int64
	amount int64
}

// result is what a function returned.
type result struct {
	name    string
	numbers [2]int64
	list    []int64
	sets    [][]api.StoneKind
	e       api.Errno
}

func (r result) equals(other result) bool {
	return r.name == other.name && r.numbers == other.numbers && slices.Equal(r.list, other.list) && equalSets(r.sets, other.sets) && r.e == other.e
}

func equal(one, other []result) bool { return slices.EqualFunc(one, other, result.equals) }

// withSet tells whether a function has a set, by its name.
func withSet(name string) bool {
	return !slices.Contains([]string{"Count", "All", "Few", "Enough"}, name)
}

// all returns the results of all functions, with the same arguments.
func (c call) all() []result {
	all := []result{{name: "CheckSet", e: stone.CheckSet(c.set)}}
	add := func(name string, number int64, e api.Errno) {
		all = append(all, result{name: name, numbers: [2]int64{number}, e: e})
	}
	addList := func(name string, list []int64, e api.Errno) { all = append(all, result{name: name, list: list, e: e}) }
	amount, uses, e := stone.CheckLay(c.set, c.pans, c.lay)
	all = append(all, result{name: "CheckLay", numbers: [2]int64{amount, uses}, e: e})
	list, e := stone.Weighs(c.set, c.pans)
	addList("Weighs", list, e)
	number, e := stone.Upto(c.set, c.pans)
	add("Upto", number, e)
	number, e = stone.Gap(c.set, c.pans)
	add("Gap", number, e)
	number, e = stone.Ways(c.set, c.pans, c.amount)
	add("Ways", number, e)
	number, e = stone.Fewest(c.set, c.pans, c.amount)
	add("Fewest", number, e)
	list, e = stone.Lay(c.set, c.pans, c.amount)
	addList("Lay", list, e)
	number, e = stone.CheckPerfect(c.set, c.pans)
	add("CheckPerfect", number, e)
	list, e = stone.Factors(c.set, c.pans)
	addList("Factors", list, e)
	number, e = stone.Count(c.pans, c.amount)
	add("Count", number, e)
	several, e := stone.All(c.pans, c.amount)
	all = append(all, result{name: "All", sets: several, e: e})
	number, e = stone.Few(c.pans, c.amount)
	add("Few", number, e)
	enough, e := stone.Enough(c.pans, c.amount)
	return append(all, result{name: "Enough", sets: sets(enough), e: e})
}

// errno returns the error of one of the functions.
func (c call) errno(name string) api.Errno {
	for _, r := range c.all() {
		if r.name == name {
			return r.e
		}
	}
	return -1
}

// goodCall returns one of which no function has an error but Gap, which has none only if the set does not weigh all.
func goodCall() call { return call{chapterK(), 2, list(-1, -1, 1), 5} }

// call returns one with arguments that are valid.
func (d *dice) call() call {
	pans := 1 + d.upTo(1)
	asked := d.set(120)
	if d.upTo(2) == 0 {
		asked = d.perfect(pans, 120)
	}
	return call{asked, pans, d.lay(asked, pans), int64(d.upTo(60))}
}

// with returns a call of which something is changed.
func (c call) with(change func(c *call)) call {
	change(&c)
	return c
}

// R1: what is wrong with a set is the error of all functions with one, whatever else is wrong.
func TestSetFirst(t *testing.T) {
	for i, x := range []struct {
		set []api.StoneKind
		e   api.Errno
	}{
		{nil, api.ErrMany},
		{doubled(9), api.ErrMany},
		{slices.Repeat(set(0, 301), 9), api.ErrMany},
		{slices.Repeat(set(300, 300), 9), api.ErrMany},
		{set(2, 2, 2, 0), api.ErrRange},
		{set(300, 300, 200, 300, 0, 1), api.ErrRange},
		{set(2, 301, 1, 1), api.ErrRange},
		{set(200, 2, 100, 2), api.ErrRule},
		{set(100, 3, 100, 1), api.ErrRule},
		{set(100, 3, 101, 1), api.ErrOver},
	} {
		for _, pans := range []int{0, 1, 2, 3} {
			for _, amount := range list(-1, 0, 5, 61, 301) {
				for _, lay := range [][]int64{nil, list(0), list(500, 500)} {
					for _, r := range (call{x.set, pans, lay, amount}).all() {
						if withSet(r.name) && r.e != x.e {
							t.Error(i, pans, amount, r)
						}
					}
				}
			}
		}
	}
}

// R1: then what is wrong with the pans is the error of all functions with them.
func TestPansNext(t *testing.T) {
	for _, pans := range []int{math.MinInt, -1, 0, 3, 1 << 32, 1<<32 + 1, math.MaxInt} {
		for _, amount := range list(math.MinInt64, -1, 0, 5, 61, 122, 301) {
			for _, lay := range [][]int64{nil, list(0), list(5, 5, 5)} {
				for _, r := range (call{chapterK(), pans, lay, amount}).all() {
					if (r.e == api.ErrArg) != (r.name != "CheckSet") {
						t.Error(pans, amount, r)
					}
				}
			}
		}
	}
}

// R1
func TestOrderOfErrors(t *testing.T) {
	for i, x := range []struct {
		name   string
		change func(c *call)
		e      api.Errno
	}{
		{"CheckSet", func(c *call) { c.set = append(set(0, 1), doubled(8)...) }, api.ErrMany},
		{"CheckSet", func(c *call) { c.set = set(2, 1, 1, 1, 5, 301) }, api.ErrRange},
		{"CheckSet", func(c *call) { c.set = set(1, 300, 1, 300) }, api.ErrRule},
		{"CheckSet", func(c *call) { c.pans, c.amount = 0, -1 }, api.OK},
		{"CheckLay", func(c *call) { c.lay = list(5, 5) }, api.ErrEqual},
		{"CheckLay", func(c *call) { c.lay = list(5, 5, 5, 5) }, api.ErrEqual},
		{"CheckLay", func(c *call) { c.lay = list(0, 0, 5) }, api.ErrRange},
		{"CheckLay", func(c *call) { c.amount = -1 }, api.OK},
		{"Weighs", func(c *call) { c.amount, c.lay = -1, nil }, api.OK},
		{"Gap", func(c *call) { c.amount = -1 }, api.ErrNone},
		{"Gap", func(c *call) { c.pans = 1 }, api.OK},
		{"Ways", func(c *call) { c.amount, c.lay = 14, nil }, api.OK},
		{"Ways", func(c *call) { c.amount = 301 }, api.ErrRange},
		{"Fewest", func(c *call) { c.amount = 301 }, api.ErrRange},
		{"Fewest", func(c *call) { c.amount = 300 }, api.ErrStone},
		{"Fewest", func(c *call) { c.pans = 1 }, api.ErrStone},
		{"Lay", func(c *call) { c.amount = -1 }, api.ErrRange},
		{"Lay", func(c *call) { c.amount = 14 }, api.ErrStone},
		{"CheckPerfect", func(c *call) { c.pans, c.amount = 1, -1 }, api.ErrStone},
		{"Factors", func(c *call) { c.pans, c.amount = 1, -1 }, api.ErrStone},
		{"Count", func(c *call) { c.set, c.amount = nil, 61 }, api.ErrRange},
		{"All", func(c *call) { c.set, c.amount = nil, 60 }, api.OK},
		{"Few", func(c *call) { c.set, c.amount = nil, 122 }, api.ErrRange},
		{"Enough", func(c *call) { c.set, c.amount = nil, 121 }, api.OK},
		{"Enough", func(c *call) { c.pans, c.amount = 3, 122 }, api.ErrArg},
		{"All", func(c *call) { c.pans, c.amount = 3, 61 }, api.ErrArg},
	} {
		if e := goodCall().with(x.change).errno(x.name); e != x.e {
			t.Error(i, x.name, e)
		}
	}
	for _, r := range goodCall().all() {
		if r.e != api.OK && r.name != "Gap" {
			t.Error(r)
		}
	}
}

// R2: CheckPerfect returns an amount with ErrStone, as the chapter says.
func TestZeroWithError(t *testing.T) {
	for i, change := range []func(c *call){
		func(c *call) { c.set = nil },
		func(c *call) { c.set = doubled(9) },
		func(c *call) { c.set = set(1, 301) },
		func(c *call) { c.set = set(2, 1, 2, 1) },
		func(c *call) { c.set = set(151, 2) },
		func(c *call) { c.pans = 0 },
		func(c *call) { c.pans = 3 },
		func(c *call) { c.pans = 1 },
		func(c *call) { c.lay = list(1, 1) },
		func(c *call) { c.lay = list(1, 1, 2) },
		func(c *call) { c.amount = -1 },
		func(c *call) { c.amount = 0 },
		func(c *call) { c.amount = 61 },
		func(c *call) { c.amount = 122 },
		func(c *call) { c.amount = 301 },
	} {
		some := false
		for _, r := range goodCall().with(change).all() {
			some = some || r.e != api.OK && r.name != "Gap"
			none := result{name: r.name, e: r.e}
			if r.name == "Enough" {
				none.sets = sets(nil)
			}
			if r.e != api.OK && !r.equals(none) && (r.name != "CheckPerfect" || r.e != api.ErrStone) {
				t.Error(i, r)
			}
		}
		if !some {
			t.Error(i, "no error")
		}
	}
}

// R3
func TestNilAndEmpty(t *testing.T) {
	for pans := range 4 {
		for _, amount := range list(-1, 0, 5, 300) {
			for _, asked := range sets(nil, chapterK()) {
				one := call{asked, pans, nil, amount}
				other := call{append([]api.StoneKind{}, asked...), pans, []int64{}, amount}
				if one, other := one.all(), other.all(); !equal(one, other) {
					t.Error(one, other)
				}
			}
		}
	}
}

// filled is what is behind lists that have room.
const filled = -7

// roomy returns a copy of a list with room behind it that is filled.
func roomy[T any](list []T, filled T) []T {
	n := len(list)
	return slices.Concat(list, slices.Repeat([]T{filled}, 20))[:n]
}

// untouched tells whether a list is as it was, and what is behind it too.
func untouched[T comparable](roomy, list []T, filled T) bool {
	n := len(list)
	return slices.Equal(roomy, list) && slices.Equal(roomy[:n+20][n:], slices.Repeat([]T{filled}, 20))
}

// spoil writes over all the memory of a list.
func spoil[T any](list []T, with T) {
	list = list[:cap(list)]
	for i := range list {
		list[i] = with
	}
}

// R4
func TestArgumentsUnchanged(t *testing.T) {
	d := dice(4)
	kind := api.StoneKind{Weight: filled, Many: filled}
	for i := range 100 {
		kept := d.call()
		c := kept.with(func(c *call) { c.set, c.lay = roomy(c.set, kind), roomy(c.lay, filled) })
		before := c.all()
		if !untouched(c.set, kept.set, kind) || !untouched(c.lay, kept.lay, filled) {
			t.Fatal(i, "an argument was changed")
		}
		spoil(c.set, kind)
		spoil(c.lay, filled)
		if !equal(before, kept.all()) {
			t.Fatal(i, "a result shares memory with an argument, or keeps it")
		}
	}
}

// clone returns results with memory of their own.
func clone(results []result) []result {
	results = slices.Clone(results)
	for i, r := range results {
		results[i].list = slices.Clone(r.list)
		results[i].sets = slices.Clone(r.sets)
		for j, one := range r.sets {
			results[i].sets[j] = slices.Clone(one)
		}
	}
	return results
}

// R4: no result, and no argument, changes when another result is spoilt; nor does another set of the same result.
func TestResultsApart(t *testing.T) {
	d := dice(5)
	for i := range 50 {
		c := d.call()
		if i == 0 {
			c = goodCall()
		}
		argument := call{slices.Clone(c.set), c.pans, slices.Clone(c.lay), c.amount}
		results := c.all()
		kept := clone(results)
		for at, r := range results {
			spoil(r.list, filled)
			for one, set := range r.sets {
				spoil(set, api.StoneKind{Weight: filled, Many: filled})
				if !equalSets(r.sets[one+1:], kept[at].sets[one+1:]) {
					t.Error(i, r.name, one)
				}
			}
			spoil(r.sets, nil)
			if !equal(results[at+1:], kept[at+1:]) || !equal(c.all(), kept) {
				t.Error(i, r.name)
			}
		}
		if !slices.Equal(c.set, argument.set) || !slices.Equal(c.lay, argument.lay) {
			t.Error(i, "a result was a part of an argument")
		}
	}
}

// R5, R6 and P1: any value of any argument has a result or an error.
func TestAnyArguments(t *testing.T) {
	wild := list(math.MinInt64, math.MinInt64+1, -1<<32, -2, -1, 0, 1, 2, 3, 8, 60, 61, 121, 122, 299, 300, 301, 1<<32, 1<<32+1, math.MaxInt64-1, math.MaxInt64)
	for _, a := range wild {
		checkWild(t, a)
		for _, b := range wild {
			want := api.ErrRange
			if min(a, b) >= -1 && max(a, b) <= 1 {
				want = api.OK
			}
			if _, _, e := stone.CheckLay(chapterK(), 2, list(0, a, b)); e != want {
				t.Error(a, b, e)
			}
			for _, asked := range sets(nil, set(a, b), set(1, 1, a, b), set(a, 1, b, 1), chapterK()) {
				one, other := call{asked, int(a), list(b), b}, call{asked, 2, list(a, b), a}
				if len(one.all()) != 14 || len(other.all()) != 14 {
					t.Error(a, b)
				}
			}
		}
	}
}

// checkWild checks the errors of a wild number beside others that are valid.
func checkWild(t *testing.T, a int64) {
	t.Helper()
	from := func(lo, hi, number int64) bool { return lo <= number && number <= hi }
	for i, x := range []struct {
		name   string
		change func(c *call)
		valid  bool
		e      api.Errno
	}{
		{"CheckSet", func(c *call) { c.set = set(a, 1) }, from(1, 300, a), api.ErrRange},
		{"CheckSet", func(c *call) { c.set = set(1, a) }, from(1, 300, a), api.ErrRange},
		{"Weighs", func(c *call) { c.pans = int(a) }, from(1, 2, a), api.ErrArg},
		{"Few", func(c *call) { c.pans = int(a) }, from(1, 2, a), api.ErrArg},
		{"Count", func(c *call) { c.pans = int(a) }, from(1, 2, a), api.ErrArg},
		{"CheckLay", func(c *call) { c.set, c.lay = set(1, 299), list(a) }, from(-299, 299, a), api.ErrRange},
		{"CheckLay", func(c *call) { c.set, c.pans, c.lay = set(1, 299), 1, list(a) }, from(0, 299, a), api.ErrRange},
		{"Ways", func(c *call) { c.amount = a }, from(0, 300, a), api.ErrRange},
		{"Fewest", func(c *call) { c.set, c.amount = set(1, 300), a }, from(0, 300, a), api.ErrRange},
		{"Lay", func(c *call) { c.set, c.amount = set(1, 300), a }, from(0, 300, a), api.ErrRange},
		{"Count", func(c *call) { c.amount = a }, from(1, 60, a), api.ErrRange},
		{"All", func(c *call) { c.amount = a }, from(1, 60, a), api.ErrRange},
		{"Few", func(c *call) { c.amount = a }, from(1, 121, a), api.ErrRange},
		{"Enough", func(c *call) { c.amount = a }, from(1, 121, a), api.ErrRange},
	} {
		want := api.OK
		if !x.valid {
			want = x.e
		}
		if e := goodCall().with(x.change).errno(x.name); e != want {
			t.Error(i, x.name, a, e)
		}
	}
}

// P1: lists can have any length.
func TestLongArguments(t *testing.T) {
	long := make([]int64, 1<<20)
	for i, x := range []struct {
		c    call
		name string
		e    api.Errno
	}{
		{call{slices.Repeat(set(1, 1), 1<<20), 2, long, 5}, "CheckSet", api.ErrMany},
		{call{slices.Repeat(set(1, 1), 1<<20), 2, long, 5}, "Lay", api.ErrMany},
		{call{chapterK(), 2, long, 5}, "CheckLay", api.ErrEqual},
	} {
		if e := x.c.errno(x.name); e != x.e {
			t.Error(i, e)
		}
	}
}

// R8, R9: equal calls return equal results, also where a map has many sums.
func TestAgain(t *testing.T) {
	d := dice(6)
	for range 30 {
		c := d.call()
		first := c.all()
		for range 10 {
			if again := c.all(); !equal(first, again) {
				t.Fatal(first, again)
			}
		}
	}
}

// R10
func TestNothingKept(t *testing.T) {
	d := dice(7)
	var calls []call
	var first [][]result
	for range 100 {
		c := d.call()
		calls, first = append(calls, c), append(first, c.all())
	}
	for i, c := range slices.Backward(calls) {
		if !equal(first[i], c.all()) {
			t.Error(c)
		}
	}
}
