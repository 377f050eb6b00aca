package search_test

import (
	"slices"
	"testing"

	"porringer/api"
	"porringer/search"
)

// P3.1
func TestCheckTable(t *testing.T) {
	of := func(rows ...[]int64) api.SearchTable { return api.SearchTable{Loss: rows} }
	for i, x := range []struct {
		table api.SearchTable
		e     api.Errno
	}{
		{chapterA(), api.OK},
		{chapterC(), api.OK},
		{even(1, 1, 100), api.OK},
		{even(1, 4, -100), api.OK},
		{even(4, 1, 100), api.OK},
		{even(4, 4, -100), api.OK},
		{heavyTable(), api.OK},
		{of(), api.ErrMany},
		{api.SearchTable{Loss: [][]int64{}}, api.ErrMany},
		{of(nil), api.ErrMany},
		{of(parts(), parts()), api.ErrMany},
		{even(5, 1, 0), api.ErrMany},
		{even(1, 5, 0), api.ErrMany},
		{even(5, 5, 101), api.ErrMany},
		{of(parts(1), nil), api.ErrMany},
		{of(parts(1, 2), parts(1, 2, 3, 4, 5)), api.ErrMany},
		{of(parts(1, 2), parts(1), nil), api.ErrMany},
		{of(parts(101), parts(1, 2), nil), api.ErrMany},
		{of(parts(1, 2), parts(1)), api.ErrEqual},
		{of(parts(1), parts(1, 2)), api.ErrEqual},
		{of(parts(1, 2), parts(1, 2), parts(1, 2), parts(1, 2, 3)), api.ErrEqual},
		{of(parts(101, 2), parts(1, 2), parts(-101)), api.ErrEqual},
		{even(1, 1, 101), api.ErrRange},
		{even(1, 1, -101), api.ErrRange},
		{table(2, 0, 0, 0, 101), api.ErrRange},
		{table(2, 0, -101, 0, 0), api.ErrRange},
		{table(4, append(make([]int64, 15), -101)...), api.ErrRange},
	} {
		if e := search.CheckTable(x.table); e != x.e {
			t.Error(i, x.table, e)
		}
	}
}

// planCases are plans of two days, with their errors.
func planCases() []struct {
	plan []int64
	e    api.Errno
} {
	const most = api.MaxSearchPart
	return []struct {
		plan []int64
		e    api.Errno
	}{
		{parts(1, 1), api.OK},
		{parts(0, 1), api.OK},
		{parts(most, 0), api.OK},
		{parts(most, most), api.OK},
		{nil, api.ErrEqual},
		{parts(), api.ErrEqual},
		{parts(1), api.ErrEqual},
		{parts(-1), api.ErrEqual},
		{parts(0), api.ErrEqual},
		{parts(0, 0, 0), api.ErrEqual},
		{parts(1, 1, most+1), api.ErrEqual},
		{parts(-1, 0), api.ErrRange},
		{parts(0, -1), api.ErrRange},
		{parts(-1, 1), api.ErrRange},
		{parts(1, most+1), api.ErrRange},
		{parts(most+1, 0), api.ErrRange},
		{parts(0, 0), api.ErrArg},
	}
}

// P3.2, P3.5 and P3.7: the error of a plan, of rows and of columns, where there are not as many of both.
func TestPlanErrors(t *testing.T) {
	two, other := table(3, 1, 2, 3, 4, 5, 6), table(2, 1, 2, 3, 4, 5, 6)
	for i, x := range planCases() {
		if _, e := search.Sure(two, x.plan); e != x.e {
			t.Error("Sure", i, e)
		}
		if _, e := search.Bound(other, x.plan); e != x.e {
			t.Error("Bound", i, e)
		}
		if _, e := search.Answers(other, x.plan); e != x.e {
			t.Error("Answers", i, e)
		}
		if _, e := search.CheckProof(two, x.plan, parts(1, 0, 0)); e != x.e && (x.e != api.OK || e != api.ErrSum) {
			t.Error("rows of CheckProof", i, e)
		}
		if _, e := search.CheckProof(other, parts(0, 0, 1), x.plan); e != x.e && (x.e != api.OK || e != api.ErrSum) {
			t.Error("columns of CheckProof", i, e)
		}
	}
}

// P3.2, and that fractions are in least terms.
func TestSureAndBound(t *testing.T) {
	const most = api.MaxSearchPart
	for i, x := range []struct {
		table api.SearchTable
		rows  []int64
		sure  api.Ratio
	}{
		{chapterA(), parts(3, 2), by(1, 1)},
		{chapterA(), parts(1, 0), by(-1, 1)},
		{chapterA(), parts(0, 7), by(-2, 1)},
		{chapterA(), parts(1, 1), by(1, 2)},
		{chapterA(), parts(2, 6), by(-3, 4)},
		{chapterA(), parts(4, 1), by(0, 1)},
		{chapterB(), parts(5, 0), by(1, 1)},
		{chapterC(), parts(1, 1, 1), by(0, 1)},
		{chapterC(), parts(1, 2, 3), by(-1, 3)},
		{table(3, 1, 2, 3), parts(9), by(1, 1)},
		{table(1, 1, 2, 4), parts(1, 1, 1), by(7, 3)},
		{even(4, 4, 100), parts(most, most, most, most), by(100, 1)},
		{even(4, 4, -100), parts(most, most, most, most), by(-100, 1)},
		{table(1, 100, -99), parts(most, most-1), by(100*most-99*(most-1), 2*most-1)},
		{table(2, -100, 99, 99, -100), parts(most-1, most), by(-100*most+99*(most-1), 2*most-1)},
		{table(1, 100, 100, 100, 99), parts(most, most, most, most-1), by(13299999967, 133333333)},
	} {
		if r, e := search.Sure(x.table, x.rows); r != x.sure || e != api.OK {
			t.Error("Sure", i, r, e)
		}
		if r, e := search.Bound(turned(x.table), x.rows); r != negative(x.sure) || e != api.OK {
			t.Error("Bound of the turned table", i, r, e)
		}
	}
	for i, x := range []struct {
		table   api.SearchTable
		columns []int64
		bound   api.Ratio
	}{
		{chapterA(), parts(1, 1), by(1, 1)},
		{chapterA(), parts(0, 1), by(4, 1)},
		{chapterA(), parts(3, 0), by(3, 1)},
		{chapterA(), parts(2, 1), by(5, 3)},
		{chapterB(), parts(1, 0), by(1, 1)},
		{chapterC(), parts(2, 2, 2), by(0, 1)},
		{chapterC(), parts(0, 2, 4), by(2, 3)},
		{table(3, 1, 2, 4), parts(1, 1, 1), by(7, 3)},
		{table(1, 1, 2, 4), parts(most), by(4, 1)},
		{even(4, 4, 100), parts(most, most, most, most), by(100, 1)},
		{table(2, 100, -99), parts(most, most-1), by(100*most-99*(most-1), 2*most-1)},
	} {
		if r, e := search.Bound(x.table, x.columns); r != x.bound || e != api.OK {
			t.Error("Bound", i, r, e)
		}
	}
}

// valueCase is a table with its value, and with the rows and the columns that are used.
type valueCase struct {
	table         api.SearchTable
	value         api.Ratio
	rows, columns []int
}

func valueCases() []valueCase {
	return []valueCase{
		{chapterA(), by(1, 1), list(0, 1), list(0, 1)},
		{chapterB(), by(1, 1), list(0), list(0)},
		{chapterC(), by(0, 1), list(0, 1, 2), list(0, 1, 2)},
		{even(1, 1, -100), by(-100, 1), list(0), list(0)},
		{even(1, 1, 100), by(100, 1), list(0), list(0)},
		{even(4, 4, 0), by(0, 1), upTo(4), upTo(4)},
		{even(2, 3, -100), by(-100, 1), upTo(2), upTo(3)},
		{table(4, 5, 3, 4, 3), by(3, 1), list(0), list(1, 3)},
		{table(1, 5, 3, 5, 4), by(5, 1), list(0, 2), list(0)},
		{table(2, 1, 0, 0, 0), by(0, 1), list(0, 1), list(1)},
		{table(2, 0, -1, 0, 0), by(0, 1), list(1), list(0, 1)},
		{table(2, 1, 0, 0, 1), by(1, 2), list(0, 1), list(0, 1)},
		{table(2, 1, 0, 0, 1, 1, 1), by(1, 1), list(2), list(0, 1)},
		{table(2, 2, 0, 0, 1), by(2, 3), list(0, 1), list(0, 1)},
		{table(3, 2, 0, 1, 0, 2, 1), by(1, 1), list(0, 1), list(0, 1, 2)},
		{table(3, 2, 0, 2, 0, 1, 1), by(2, 3), list(0, 1), list(0, 1)},
		{table(3, 1, 0, 0, 0, 2, 0, 0, 0, 3), by(6, 11), upTo(3), upTo(3)},
		{table(4, 1, 0, 0, 0, 0, 2, 0, 0, 0, 0, 3, 0, 0, 0, 0, 4), by(12, 25), upTo(4), upTo(4)},
		{table(4, 100, 0, 0, 0, 0, 99, 0, 0, 0, 0, 97, 0, 0, 0, 0, 83), by(79704900, 3384149), upTo(4), upTo(4)},
		{table(4, 4, 1, 3, 1, 2, 3, 3, 2, 1, 2, 0, 4, 3, 3, 4, 0), by(9, 4), list(0, 1, 2), list(0, 1, 2, 3)},
	}
}

// P3.3, P3.4
func TestValue(t *testing.T) {
	for i, x := range valueCases() {
		if value, e := search.Value(x.table); value != x.value || e != api.OK {
			t.Error(i, value, e)
		}
		checkProved(t, x.table)
	}
	checkProved(t, heavyTable())
}

// checkProved checks that best plans are valid and prove the value.
func checkProved(t *testing.T, table api.SearchTable) {
	t.Helper()
	value := mustValue(t, table)
	rows, columns := mustPlans(t, table)
	if len(rows) != len(table.Loss) || len(columns) != len(table.Loss[0]) {
		t.Fatal(table, rows, columns)
	}
	for _, plan := range [][]int64{rows, columns} {
		if slices.Min(plan) < 0 || slices.Max(plan) > api.MaxSearchPart || slices.Max(plan) == 0 {
			t.Fatal(table, plan)
		}
	}
	if sure, bound := sureOf(table, rows), boundOf(table, columns); sure != value || bound != value {
		t.Error(table, rows, columns, sure, bound, value)
	}
	if r, e := search.Sure(table, rows); r != value || e != api.OK {
		t.Error("Sure", table, rows, r, e)
	}
	if r, e := search.Bound(table, columns); r != value || e != api.OK {
		t.Error("Bound", table, columns, r, e)
	}
	if r, e := search.CheckProof(table, rows, columns); r != value || e != api.OK {
		t.Error("CheckProof", table, rows, columns, r, e)
	}
}

// P3.5
func TestCheckProof(t *testing.T) {
	const most = api.MaxSearchPart
	for i, x := range []struct {
		table         api.SearchTable
		rows, columns []int64
		value         api.Ratio
		e             api.Errno
	}{
		{chapterA(), parts(3, 2), parts(1, 1), by(1, 1), api.OK},
		{chapterA(), parts(60000000, 40000000), parts(most, most), by(1, 1), api.OK},
		{chapterA(), parts(1, 1), parts(1, 1), by(0, 0), api.ErrSum},
		{chapterA(), parts(3, 2), parts(1, 2), by(0, 0), api.ErrSum},
		{chapterA(), parts(59999999, 40000000), parts(most, most), by(0, 0), api.ErrSum},
		{chapterA(), parts(60000000, 40000000), parts(most, most-1), by(0, 0), api.ErrSum},
		{chapterB(), parts(1, 0), parts(1, 0), by(1, 1), api.OK},
		{chapterB(), parts(1, 0), parts(0, 1), by(0, 0), api.ErrSum},
		{chapterB(), parts(0, 1), parts(1, 0), by(0, 0), api.ErrSum},
		{chapterC(), parts(1, 1, 1), parts(7, 7, 7), by(0, 1), api.OK},
		{chapterC(), parts(1, 1, 1), parts(7, 7, 8), by(0, 0), api.ErrSum},
		{even(4, 4, 100), parts(most, most, most, most), parts(1, most, 0, most), by(100, 1), api.OK},
		{even(4, 4, -100), parts(most, 1, 0, 0), parts(most, most, most, most), by(-100, 1), api.OK},
		{table(2, 2, 0, 0, 1), parts(1, 2), parts(2, 4), by(2, 3), api.OK},
		{table(2, 2, 0, 0, 1), parts(1, 2), parts(2, 1), by(0, 0), api.ErrSum},
		{table(3, 2, 0, 2, 0, 1, 1), parts(1, 2), parts(1, 2, 0), by(2, 3), api.OK},
		{table(3, 2, 0, 2, 0, 1, 1), parts(1, 2), parts(1, 2, 1), by(0, 0), api.ErrSum},
		{chapterA(), parts(1), parts(0, 0), by(0, 0), api.ErrEqual},
		{chapterA(), parts(0, 0), parts(1), by(0, 0), api.ErrArg},
		{chapterA(), parts(-1, 0), parts(1), by(0, 0), api.ErrRange},
		{chapterA(), parts(3, 2), parts(1), by(0, 0), api.ErrEqual},
		{chapterA(), parts(1, 1), parts(-1, 1), by(0, 0), api.ErrRange},
		{chapterA(), parts(1, 1), parts(0, 0), by(0, 0), api.ErrArg},
	} {
		if r, e := search.CheckProof(x.table, x.rows, x.columns); r != x.value || e != x.e {
			t.Error(i, r, e)
		}
	}
}

// P3.6
func TestPure(t *testing.T) {
	for i, x := range []struct {
		table       api.SearchTable
		row, column int
		e           api.Errno
	}{
		{chapterA(), 0, 0, api.ErrSearch},
		{chapterB(), 0, 0, api.OK},
		{chapterC(), 0, 0, api.ErrSearch},
		{even(4, 4, -100), 0, 0, api.OK},
		{even(1, 1, 7), 0, 0, api.OK},
		{table(4, 5, 3, 4, 3), 0, 1, api.OK},
		{table(1, 5, 3, 6, 6), 2, 0, api.OK},
		{table(2, 0, 0, 1, 2), 1, 0, api.OK},
		{table(2, 3, 0, 2, 1), 1, 1, api.OK},
		{table(2, 1, 0, 0, 1), 0, 0, api.ErrSearch},
		{table(3, 2, 1, 1, 0, 1, 1), 0, 1, api.OK},
		{table(3, 0, 2, 0, 1, 2, 1, 1, 0, 1), 1, 0, api.OK},
		{table(3, 9, 0, 0, 5, 1, 1, 5, 1, 1), 1, 1, api.OK},
		{table(4, 9, 0, 9, 0, 0, 9, 0, 9, 9, 0, 9, 0, 4, 4, 4, 4), 0, 0, api.ErrSearch},
		{table(4, 9, 0, 9, 0, 0, 9, 0, 9, 9, 0, 9, 0, 9, 9, 9, 8), 3, 3, api.ErrSearch},
		{table(4, 9, 0, 9, 0, 0, 9, 0, 7, 9, 0, 9, 0, 9, 9, 9, 8), 3, 3, api.OK},
		{table(2, -5, -6, -7, -8), 0, 1, api.OK},
	} {
		if x.e != api.OK {
			x.row, x.column = 0, 0
		}
		if row, column, e := search.Pure(x.table); row != x.row || column != x.column || e != x.e {
			t.Error(i, row, column, e)
		}
	}
}

// P3.7
func TestAnswers(t *testing.T) {
	const most = api.MaxSearchPart
	for i, x := range []struct {
		table   api.SearchTable
		columns []int64
		rows    []int
	}{
		{chapterA(), parts(1, 1), list(0, 1)},
		{chapterA(), parts(3, 1), list(0)},
		{chapterA(), parts(1, 3), list(1)},
		{chapterA(), parts(most, most), list(0, 1)},
		{chapterA(), parts(most, most-1), list(0)},
		{chapterA(), parts(most-1, most), list(1)},
		{chapterC(), parts(5, 5, 5), list(0, 1, 2)},
		{chapterC(), parts(1, 0, 0), list(2)},
		{chapterC(), parts(0, 1, 0), list(0)},
		{chapterC(), parts(1, 1, 0), list(0)},
		{table(1, -3, -1, -2, -1), parts(4), list(1, 3)},
		{table(4, 9, -9, 9, -9), parts(0, 0, 0, 1), list(0)},
		{even(4, 4, -100), parts(most, most, most, most), upTo(4)},
	} {
		if rows, e := search.Answers(x.table, x.columns); !slices.Equal(rows, x.rows) || e != api.OK {
			t.Error(i, rows, e)
		}
	}
}

// P3.8
func TestUsed(t *testing.T) {
	for i, x := range valueCases() {
		if rows, columns := mustUsed(t, x.table); !slices.Equal(rows, x.rows) || !slices.Equal(columns, x.columns) {
			t.Error(i, rows, columns)
		}
	}
}

// P3.9: what is left depends on the order in which rows and columns are left out.
func TestLeft(t *testing.T) {
	for i, x := range []struct {
		table         api.SearchTable
		rows, columns []int
	}{
		{chapterA(), list(0, 1), list(0, 1)},
		{chapterB(), list(0), list(0)},
		{chapterC(), upTo(3), upTo(3)},
		{even(4, 4, 3), list(0), list(0)},
		{even(1, 1, 3), list(0), list(0)},
		{table(4, 2, 1, 1, 3), list(0), list(1)},
		{table(1, 2, 1, 3, 3), list(2), list(0)},
		{table(2, 3, -1, 3, -1, -2, 4), list(0, 2), list(0, 1)},
		{table(3, 3, 3, -1, -2, -2, 4), list(0, 1), list(0, 2)},
		{table(3, 3, -1, 4, -2, 4, 4), list(0, 1), list(0, 1)},
		{table(2, -3, -1, 3, -1, -2, 4), list(1, 2), list(0, 1)},
		{table(2, 1, 0, 0, 0), list(0), list(1)},
		{table(2, 0, 1, 0, 0), list(0), list(0)},
		{table(2, 0, 1, 1, 0, 0, 0), list(0, 1), list(0, 1)},
		{table(2, 0, 0, 0, 1), list(1), list(0)},
		{table(3, 1, 0, 5, 0, 1, 5, 0, 2, 0), list(0, 2), list(0, 1)},
		{table(4, 1, 0, 0, 9, 0, 1, 0, 9, 0, 0, 1, 9, 2, 2, 2, 0), upTo(4), upTo(4)},
		{table(4, 1, 0, 0, 9, 0, 1, 0, 9, 0, 0, 1, 9, 0, 0, 0, 9), upTo(3), upTo(3)},
	} {
		rows, columns := mustLeft(t, x.table)
		if !slices.Equal(rows, x.rows) || !slices.Equal(columns, x.columns) {
			t.Error(i, rows, columns)
		}
		if wantRows, wantColumns := leftOf(x.table); !slices.Equal(rows, wantRows) || !slices.Equal(columns, wantColumns) {
			t.Error("by definition", i, wantRows, wantColumns)
		}
	}
}
