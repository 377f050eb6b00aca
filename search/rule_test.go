package search_test

import (
	"math"
	"slices"
	"testing"

	"porringer/api"
	"porringer/search"
)

// The tests of this file are those of the document's rules R1 to R10, and of P1. Layer 3 reads and writes no text, so that
// R7 has no test here. Of equal candidates Pure and Left take the first one, which the tests of P3.6 and P3.9 check as R8;
// of best plans the chapter does not say which one is returned, so that they are only always the same.

// call is what a function is called with, all that any of them needs.
type call struct {
	table         api.SearchTable
	rows, columns []int64
}

// result is what a function returned.
type result struct {
	name        string
	one, two    []int
	parts       []int64
	ratio       api.Ratio
	row, column int
	e           api.Errno
}

func (r result) equals(other result) bool {
	return r.name == other.name && slices.Equal(r.one, other.one) && slices.Equal(r.two, other.two) &&
		slices.Equal(r.parts, other.parts) && r.ratio == other.ratio && r.row == other.row && r.column == other.column && r.e == other.e
}

func equal(one, other []result) bool { return slices.EqualFunc(one, other, result.equals) }

// all returns the results of all functions, with the same arguments.
func (c call) all() []result {
	var all []result
	add := func(r result) { all = append(all, r) }
	add(result{name: "CheckTable", e: search.CheckTable(c.table)})
	r, e := search.Sure(c.table, c.rows)
	add(result{name: "Sure", ratio: r, e: e})
	r, e = search.Bound(c.table, c.columns)
	add(result{name: "Bound", ratio: r, e: e})
	r, e = search.Value(c.table)
	add(result{name: "Value", ratio: r, e: e})
	plan, e := search.Rows(c.table)
	add(result{name: "Rows", parts: plan, e: e})
	plan, e = search.Columns(c.table)
	add(result{name: "Columns", parts: plan, e: e})
	r, e = search.CheckProof(c.table, c.rows, c.columns)
	add(result{name: "CheckProof", ratio: r, e: e})
	row, column, e := search.Pure(c.table)
	add(result{name: "Pure", row: row, column: column, e: e})
	one, e := search.Answers(c.table, c.columns)
	add(result{name: "Answers", one: one, e: e})
	one, two, e := search.Used(c.table)
	add(result{name: "Used", one: one, two: two, e: e})
	one, two, e = search.Left(c.table)
	add(result{name: "Left", one: one, two: two, e: e})
	return all
}

// errno returns the error of one of the functions.
func (c call) errno(name string) api.Errno {
	for _, r := range c.all() {
		if r.name == name {
			return r.e
		}
	}
	return -1
}

func goodCall() call { return call{chapterA(), parts(3, 2), parts(1, 1)} }

// call returns one with plans that are valid, and often are best ones.
func (d *dice) call(most int) call {
	table := d.table(most)
	return call{table, d.plan(len(table.Loss), 3), d.plan(len(table.Loss[0]), 3)}
}

// R1: the error of the table is that of all functions, whatever else is wrong.
func TestTableFirst(t *testing.T) {
	for i, x := range []struct {
		rows [][]int64
		e    api.Errno
	}{
		{nil, api.ErrMany},
		{slices.Repeat([][]int64{parts(101)}, 5), api.ErrMany},
		{[][]int64{parts(101, 1), parts(1), nil}, api.ErrMany},
		{[][]int64{parts(1, 2, 3, 4), parts(1, 2, 3, 4, 101)}, api.ErrMany},
		{[][]int64{parts(-101), parts(1, 2)}, api.ErrEqual},
		{[][]int64{parts(0, 0), parts(0, 101)}, api.ErrRange},
	} {
		for _, plan := range [][]int64{nil, parts(-1), parts(0, 0), parts(1, 1)} {
			for _, r := range (call{api.SearchTable{Loss: x.rows}, plan, plan}).all() {
				if r.e != x.e {
					t.Error(i, plan, r)
				}
			}
		}
	}
}

// R1
func TestOrderOfErrors(t *testing.T) {
	for i, x := range []struct {
		name   string
		change func(c *call)
		e      api.Errno
	}{
		{"Sure", func(c *call) { c.rows = parts(0, 0, -1) }, api.ErrEqual},
		{"Sure", func(c *call) { c.rows = parts(0, -1) }, api.ErrRange},
		{"Bound", func(c *call) { c.columns = parts(0, 0, -1) }, api.ErrEqual},
		{"Bound", func(c *call) { c.columns = parts(0, -1) }, api.ErrRange},
		{"Answers", func(c *call) { c.columns = parts(-1) }, api.ErrEqual},
		{"Answers", func(c *call) { c.columns = parts(0, -1) }, api.ErrRange},
		{"CheckProof", func(c *call) { c.rows, c.columns = parts(-1), parts(0, 0) }, api.ErrEqual},
		{"CheckProof", func(c *call) { c.rows, c.columns = parts(0, -1), parts(1) }, api.ErrRange},
		{"CheckProof", func(c *call) { c.rows, c.columns = parts(0, 0), parts(1) }, api.ErrArg},
		{"CheckProof", func(c *call) { c.rows, c.columns = parts(1, 1), parts(0, 0) }, api.ErrArg},
		{"Sure", func(c *call) { c.columns = nil }, api.OK},
		{"Bound", func(c *call) { c.rows = nil }, api.OK},
		{"Answers", func(c *call) { c.rows = nil }, api.OK},
	} {
		c := goodCall()
		x.change(&c)
		if e := c.errno(x.name); e != x.e {
			t.Error(i, x.name, e)
		}
	}
}

// R2
func TestZeroWithError(t *testing.T) {
	for i, change := range []func(c *call){
		func(c *call) { c.table = api.SearchTable{} },
		func(c *call) { c.table.Loss[1] = parts(1) },
		func(c *call) { c.table.Loss[1][1] = 101 },
		func(c *call) { c.table.Loss = append(c.table.Loss, nil) },
		func(c *call) { c.rows = parts(1) },
		func(c *call) { c.rows = parts(0, 0) },
		func(c *call) { c.rows = parts(3, -2) },
		func(c *call) { c.rows = parts(2, 3) },
		func(c *call) { c.columns = parts(1, 1, 1) },
		func(c *call) { c.columns = parts(0, 0) },
		func(c *call) { c.columns = parts(1, api.MaxSearchPart+1) },
		func(c *call) { c.columns = parts(1, 2) },
		func(c *call) { c.table = chapterC() },
		func(c *call) { c.table = heavyTable() },
	} {
		c := goodCall()
		change(&c)
		some := false
		for _, r := range c.all() {
			some = some || r.e != api.OK && r.name != "Pure"
			if r.e != api.OK && !r.equals(result{name: r.name, e: r.e}) {
				t.Error(i, r)
			}
		}
		if !some {
			t.Error(i, "no error")
		}
	}
	for _, r := range goodCall().all() {
		if r.name == "Pure" && !r.equals(result{name: "Pure", e: api.ErrSearch}) {
			t.Error(r)
		}
	}
}

// R3
func TestNilAndEmpty(t *testing.T) {
	without := []call{
		{},
		{table: api.SearchTable{Loss: [][]int64{nil}}},
		{table: api.SearchTable{Loss: [][]int64{parts(1), nil}}},
		goodCall(),
	}
	with := []call{
		{api.SearchTable{Loss: [][]int64{}}, parts(), parts()},
		{api.SearchTable{Loss: [][]int64{parts()}}, parts(), parts()},
		{api.SearchTable{Loss: [][]int64{parts(1), parts()}}, parts(), parts()},
		goodCall(),
	}
	without[3].rows, without[3].columns = nil, nil
	with[3].rows, with[3].columns = parts(), parts()
	for i := range with {
		if one, other := without[i].all(), with[i].all(); !equal(one, other) {
			t.Error(i, one, other)
		}
	}
}

// roomy returns a copy of numbers with room behind it that holds -7.
func roomy(numbers []int64) []int64 {
	n := len(numbers)
	return slices.Concat(numbers, slices.Repeat(parts(-7), 20))[:n]
}

// untouched tells whether numbers are as they were, and what is behind them too.
func untouched(roomy, numbers []int64) bool {
	n := len(numbers)
	return slices.Equal(roomy, numbers) && slices.Equal(roomy[:n+20][n:], slices.Repeat(parts(-7), 20))
}

// R4
func TestArgumentsUnchanged(t *testing.T) {
	d := dice(4)
	for i := range 300 {
		kept := d.call([]int{1, 3, 100}[i%3])
		c := call{rows: roomy(kept.rows), columns: roomy(kept.columns)}
		n := len(kept.table.Loss)
		c.table.Loss = make([][]int64, n, n+20)
		for row, numbers := range kept.table.Loss {
			c.table.Loss[row] = roomy(numbers)
		}
		before := c.all()
		for row, numbers := range kept.table.Loss {
			if !untouched(c.table.Loss[row], numbers) {
				t.Fatal(i, "a row was changed")
			}
		}
		isThere := func(row []int64) bool { return row != nil }
		if !untouched(c.rows, kept.rows) || !untouched(c.columns, kept.columns) || slices.ContainsFunc(c.table.Loss[:n+20][n:], isThere) {
			t.Fatal(i, "an argument was changed")
		}
		for _, numbers := range append(c.table.Loss, c.rows, c.columns) {
			clear(numbers)
		}
		clear(c.table.Loss)
		if !equal(before, kept.all()) {
			t.Fatal(i, "a result shares memory with an argument, or keeps it")
		}
	}
}

// spoil writes over numbers and over all the memory that is theirs.
func spoil[T int | int64](numbers []T) {
	numbers = numbers[:cap(numbers)]
	for i := range numbers {
		numbers[i] = -9
	}
}

// R4: no result, and no argument, changes when another result is spoilt.
func TestResultsApart(t *testing.T) {
	for _, table := range []api.SearchTable{chapterA(), chapterB(), chapterC(), even(4, 4, 5), heavyTable()} {
		n, m := len(table.Loss), len(table.Loss[0])
		c := call{cloned(table), slices.Repeat(parts(1), n), slices.Repeat(parts(1), m)}
		results, kept := c.all(), c.all()
		for i, r := range kept {
			kept[i].one, kept[i].two, kept[i].parts = slices.Clone(r.one), slices.Clone(r.two), slices.Clone(r.parts)
		}
		for i, r := range results {
			spoil(r.one)
			if !slices.Equal(r.two, kept[i].two) {
				t.Error(table, r.name)
			}
			spoil(r.two)
			spoil(r.parts)
			if !equal(results[i+1:], kept[i+1:]) || !equal(c.all(), kept) {
				t.Error(table, r.name)
			}
		}
		if !slices.EqualFunc(c.table.Loss, table.Loss, slices.Equal) {
			t.Error("a result was a part of the table", table)
		}
	}
}

// R5, R6 and P1: any value of any argument has a result or an error, and no sum runs over.
func TestAnyArguments(t *testing.T) {
	wild := parts(math.MinInt64, math.MinInt64+1, -1<<53, -101, -100, -1, 0, 1, 2, 100, 101, 99999999, 100000000, 100000001, 1<<53+1, math.MaxInt64-1, math.MaxInt64)
	for _, a := range wild {
		for _, b := range wild {
			want := api.OK
			if max(a, -a, b, -b) > 100 || min(a, b) < -100 {
				want = api.ErrRange
			}
			for _, table := range []api.SearchTable{table(2, a, b), table(1, a, b), table(2, a, b, b, a)} {
				if e := search.CheckTable(table); e != want {
					t.Error("table", table, e)
				}
				if many := len((call{table, parts(b, a), parts(a, b)}).all()); many != 11 {
					t.Error(table, many)
				}
			}
			checkWild(t, a, b)
		}
	}
	for rows := range 7 {
		for columns := range 7 {
			table := api.SearchTable{Loss: make([][]int64, rows)}
			for i := range table.Loss {
				table.Loss[i] = make([]int64, columns)
			}
			if e := search.CheckTable(table); (e == api.OK) != (min(rows, columns) > 0 && max(rows, columns) < 5) || e != api.OK && e != api.ErrMany {
				t.Error(rows, columns, e)
			}
			if many := len((call{table, make([]int64, columns), make([]int64, rows)}).all()); many != 11 {
				t.Error(rows, columns, many)
			}
		}
	}
}

// checkWild checks plans with wild parts of a table that is valid.
func checkWild(t *testing.T, a, b int64) {
	t.Helper()
	table := table(2, 100, -99, -98, 100)
	want := api.OK
	switch {
	case min(a, b) < 0 || max(a, b) > api.MaxSearchPart:
		want = api.ErrRange
	case a == 0 && b == 0:
		want = api.ErrArg
	}
	r, e := search.Sure(table, parts(a, b))
	if e != want || e == api.OK && r != sureOf(table, parts(a, b)) {
		t.Error("Sure", a, b, r, e)
	}
	r, e = search.Bound(table, parts(a, b))
	if e != want || e == api.OK && r != boundOf(table, parts(a, b)) {
		t.Error("Bound", a, b, r, e)
	}
	if _, e := search.Answers(table, parts(a, b)); e != want {
		t.Error("Answers", a, b, e)
	}
	if _, e := search.CheckProof(table, parts(a, b), parts(199, 198)); e != want && (want != api.OK || e != api.ErrSum) {
		t.Error("rows", a, b, e)
	}
	if _, e := search.CheckProof(table, parts(199, 198), parts(a, b)); e != want && (want != api.OK || e != api.ErrSum) {
		t.Error("columns", a, b, e)
	}
}

// R8, R9: equal calls return equal results, also where many plans are best.
func TestAgain(t *testing.T) {
	d := dice(5)
	for i := range 60 {
		c := d.call([]int{1, 2, 100}[i%3])
		if i == 0 {
			c.table = even(4, 4, 0)
		}
		first := c.all()
		for range 30 {
			if again := c.all(); !equal(first, again) {
				t.Fatal(first, again)
			}
		}
	}
}

// R10
func TestNothingKept(t *testing.T) {
	d := dice(6)
	var calls []call
	var first [][]result
	for i := range 90 {
		c := d.call([]int{1, 4, 100}[i%3])
		calls, first = append(calls, c), append(first, c.all())
	}
	for i, c := range slices.Backward(calls) {
		if !equal(first[i], c.all()) {
			t.Error(c)
		}
	}
}
