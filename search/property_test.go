package search_test

import (
	"math/big"
	"slices"
	"testing"

	"porringer/api"
	"porringer/search"
)

// The tests of this file are those of the properties P3.10 to P3.16, and so of P2: each asks many tables. Before them
// stand tests that hold results against what the definitions give, by other ways than the program's.

// P3.3, P3.4, P3.8
func TestValueByCorners(t *testing.T) {
	check := func(table api.SearchTable) {
		value, plans := bestOf(table)
		its, others := bestOf(turned(table))
		if value != negative(its) {
			t.Fatal(table, value, its)
		}
		if got := mustValue(t, table); got != value {
			t.Fatal(table, got, value)
		}
		checkProved(t, table)
		if rows, columns := mustUsed(t, table); !slices.Equal(rows, usedBy(plans)) || !slices.Equal(columns, usedBy(others)) {
			t.Fatal(table, rows, columns, plans, others)
		}
	}
	for _, x := range valueCases() {
		check(x.table)
	}
	check(heavyTable())
	ask(t, 500, func(_ *testing.T, _ *dice, table api.SearchTable) { check(table) })
}

// P3.4: parts are within their limit even for tables that have the greatest ones.
func TestHeavyPlans(t *testing.T) {
	d := dice(2)
	for range 1500 {
		table := mapped(even(4, 4, 0), func(int64) int64 { return int64((2*d.upTo(1) - 1) * (api.MaxSearchLoss - d.upTo(12))) })
		checkProved(t, table)
	}
}

// P3.2, P3.5, P3.7
func TestPlansByDefinition(t *testing.T) {
	proofs := 0
	ask(t, 1200, func(t *testing.T, d *dice, table api.SearchTable) {
		most := []int{2, 50, api.MaxSearchPart}[d.upTo(2)]
		rows, columns := d.plan(len(table.Loss), most), d.plan(len(table.Loss[0]), most)
		sure, bound := sureOf(table, rows), boundOf(table, columns)
		if r, e := search.Sure(table, rows); r != sure || e != api.OK {
			t.Error("Sure", table, rows, r, e)
		}
		if r, e := search.Bound(table, columns); r != bound || e != api.OK {
			t.Error("Bound", table, columns, r, e)
		}
		value, want := sure, api.OK
		if sure != bound {
			value, want = api.Ratio{}, api.ErrSum
		} else {
			proofs++
		}
		if r, e := search.CheckProof(table, rows, columns); r != value || e != want {
			t.Error("CheckProof", table, rows, columns, r, e)
		}
		checkAnswers(t, table, columns)
	})
	if proofs < 100 {
		t.Error("too few proofs:", proofs)
	}
}

// checkAnswers checks the answers to a plan of columns by the definition.
func checkAnswers(t *testing.T, table api.SearchTable, columns []int64) {
	t.Helper()
	losses := against(turned(table), columns)
	least := slices.MinFunc(losses, (*big.Rat).Cmp)
	var rows []int
	for row, loss := range losses {
		if loss.Cmp(least) == 0 {
			rows = append(rows, row)
		}
	}
	if got, e := search.Answers(table, columns); !slices.Equal(got, rows) || e != api.OK {
		t.Error("Answers", table, columns, got, e)
	}
}

// P3.6
func TestPureByDefinition(t *testing.T) {
	pure, none := 0, 0
	ask(t, 2000, func(t *testing.T, _ *dice, table api.SearchTable) {
		row, column, e := search.Pure(table)
		for i := range table.Loss {
			for j := range table.Loss[i] {
				if isPure(table, i, j) {
					if row != i || column != j || e != api.OK {
						t.Error(table, row, column, e)
					}
					pure++
					return
				}
			}
		}
		if row != 0 || column != 0 || e != api.ErrSearch {
			t.Error(table, row, column, e)
		}
		none++
	})
	if pure < 200 || none < 200 {
		t.Error("too few of one kind:", pure, none)
	}
}

// P3.9
func TestLeftByDefinition(t *testing.T) {
	ask(t, 8000, func(t *testing.T, _ *dice, table api.SearchTable) {
		rows, columns := mustLeft(t, table)
		if wantRows, wantColumns := leftOf(table); !slices.Equal(rows, wantRows) || !slices.Equal(columns, wantColumns) {
			t.Error(table, rows, columns, wantRows, wantColumns)
		}
	})
}

// P3.10
func TestProved(t *testing.T) {
	ask(t, 1200, func(t *testing.T, d *dice, table api.SearchTable) {
		value := mustValue(t, table)
		best, least := mustPlans(t, table)
		for range 20 {
			rows, columns := d.plan(len(table.Loss), 9), d.plan(len(table.Loss[0]), 9)
			sure, e := search.Sure(table, rows)
			if e != api.OK || less(value, sure) {
				t.Error(table, rows, sure, e, value)
			}
			bound, e := search.Bound(table, columns)
			if e != api.OK || less(bound, value) {
				t.Error(table, columns, bound, e, value)
			}
			if r, e := search.CheckProof(table, rows, least); (e == api.OK) != (sure == value) || e == api.OK && r != value {
				t.Error(table, rows, least, r, e)
			}
			if r, e := search.CheckProof(table, best, columns); (e == api.OK) != (bound == value) || e == api.OK && r != value {
				t.Error(table, best, columns, r, e)
			}
		}
	})
}

// P3.11
func TestPureIsValue(t *testing.T) {
	several := 0
	ask(t, 2000, func(t *testing.T, _ *dice, table api.SearchTable) {
		row, column, e := search.Pure(table)
		if e != api.OK {
			return
		}
		value := mustValue(t, table)
		if value != by(table.Loss[row][column], 1) {
			t.Error(table, row, column, value)
		}
		many := 0
		for i, numbers := range table.Loss {
			for j, loss := range numbers {
				if !isPure(table, i, j) {
					continue
				}
				many++
				rows, columns := alone(len(table.Loss), i), alone(len(numbers), j)
				if r, e := search.CheckProof(table, rows, columns); by(loss, 1) != value || r != value || e != api.OK {
					t.Error(table, i, j, r, e)
				}
			}
		}
		if many > 1 {
			several++
		}
	})
	if several < 100 {
		t.Error("too few tables with several pure answers:", several)
	}
}

// P3.12, the other way round too: a row that is not used loses less against some best plan of columns.
func TestUsedAgainstBest(t *testing.T) {
	ask(t, 400, func(t *testing.T, _ *dice, table api.SearchTable) {
		rows, columns := mustUsed(t, table)
		checkUsed(t, table, rows)
		checkUsed(t, turned(table), columns)
		others, its := mustUsed(t, turned(table))
		if !slices.Equal(rows, its) || !slices.Equal(columns, others) {
			t.Error(table, rows, columns, its, others)
		}
	})
}

// checkUsed checks the rows that are used against best plans of columns.
func checkUsed(t *testing.T, table api.SearchTable, used []int) {
	t.Helper()
	_, plans := bestOf(turned(table))
	_, columns := mustPlans(t, table)
	always := upTo(len(table.Loss))
	for _, plan := range append(plans, columns) {
		if r, e := search.Bound(table, plan); r != mustValue(t, table) || e != api.OK {
			t.Error(table, plan, r, e)
		}
		rows, e := search.Answers(table, plan)
		if e != api.OK {
			t.Error(table, plan, e)
		}
		always = slices.DeleteFunc(always, func(row int) bool { return !slices.Contains(rows, row) })
	}
	if !slices.Equal(used, always) {
		t.Error(table, used, always)
	}
}

// poured returns a plan with so many shares of one plan and of another one, and false if its parts are too many.
func poured(one, other []int64, its, others int64) ([]int64, bool) {
	var oneSum, otherSum int64
	for i := range one {
		oneSum += one[i]
		otherSum += other[i]
	}
	shares := make([]*big.Rat, len(one))
	for i := range one {
		a, b := big.NewRat(one[i]*its, oneSum), big.NewRat(other[i]*others, otherSum)
		shares[i] = a.Quo(a.Add(a, b), big.NewRat(its+others, 1))
	}
	plan := whole(shares)
	return plan, slices.Max(plan) <= api.MaxSearchPart
}

// P3.13, for both sides
func TestMixed(t *testing.T) {
	mixed := 0
	ask(t, 600, func(t *testing.T, d *dice, table api.SearchTable) {
		value, plans := bestOf(table)
		rows, _ := mustPlans(t, table)
		plans = append(plans, rows)
		for i, one := range plans {
			for _, other := range plans[:i] {
				plan, valid := poured(one, other, int64(1+d.upTo(3)), int64(1+d.upTo(3)))
				if !valid || slices.Equal(one, other) {
					continue
				}
				mixed++
				if r, e := search.Sure(table, plan); r != value || e != api.OK {
					t.Error(table, one, other, plan, r, e)
				}
				if r, e := search.Bound(turned(table), plan); r != negative(value) || e != api.OK {
					t.Error(table, one, other, plan, r, e)
				}
			}
		}
	})
	if mixed < 200 {
		t.Error("too few plans that are mixed:", mixed)
	}
}

// P3.14
func TestLeftKeepsValue(t *testing.T) {
	fewer, pure := 0, 0
	ask(t, 3000, func(t *testing.T, _ *dice, table api.SearchTable) {
		rows, columns := mustLeft(t, table)
		if len(rows) == 0 || len(columns) == 0 {
			t.Fatal(table, rows, columns)
		}
		less := picked(table, rows, columns)
		if mustValue(t, less) != mustValue(t, table) {
			t.Error(table, rows, columns)
		}
		if i, j := mustLeft(t, less); !slices.Equal(i, upTo(len(rows))) || !slices.Equal(j, upTo(len(columns))) {
			t.Error(table, rows, columns, i, j)
		}
		for at, row := range rows {
			if canLeave(table, row, rows, columns) {
				t.Error(table, rows, columns, at)
			}
		}
		for at, column := range columns {
			if canLeave(turned(table), column, columns, rows) {
				t.Error(table, rows, columns, at)
			}
		}
		if len(rows) < len(table.Loss) || len(columns) < len(table.Loss[0]) {
			fewer++
		}
		if i, j, e := search.Pure(less); e == api.OK {
			pure++
			if !isPure(table, rows[i], columns[j]) {
				t.Error(table, rows, columns, i, j)
			}
		}
	})
	if fewer < 300 || pure < 300 {
		t.Error("too few of one kind:", fewer, pure)
	}
}

// P3.15: as many times as great, and as much more.
func TestScaled(t *testing.T) {
	d := dice(3)
	for i := range 1200 {
		table := d.table([]int{1, 2, 9}[i%3])
		times, more := int64(1+d.upTo(9)), int64(d.upTo(20)-10)
		other := mapped(table, func(loss int64) int64 { return loss*times + more })
		value := mustValue(t, table)
		want := ratio(new(big.Rat).Add(new(big.Rat).Mul(rat(value), big.NewRat(times, 1)), big.NewRat(more, 1)))
		if got := mustValue(t, other); got != want {
			t.Fatal(table, times, more, got, want)
		}
		rows, columns := mustPlans(t, table)
		if r, e := search.CheckProof(other, rows, columns); r != want || e != api.OK {
			t.Fatal(table, times, more, r, e)
		}
		rows, columns = mustPlans(t, other)
		if r, e := search.CheckProof(table, rows, columns); r != value || e != api.OK {
			t.Fatal(table, times, more, r, e)
		}
		oneRows, oneColumns := mustUsed(t, table)
		if used, its := mustUsed(t, other); !slices.Equal(used, oneRows) || !slices.Equal(its, oneColumns) {
			t.Fatal(table, times, more, used, its)
		}
	}
}

// P3.15: rows become columns, and losses have the other sign.
func TestTurned(t *testing.T) {
	ask(t, 1200, func(t *testing.T, d *dice, table api.SearchTable) {
		other := turned(table)
		if value := mustValue(t, other); value != negative(mustValue(t, table)) {
			t.Error(table, value)
		}
		rows, columns := mustPlans(t, table)
		if r, e := search.CheckProof(other, columns, rows); r != negative(mustValue(t, table)) || e != api.OK {
			t.Error(table, rows, columns, r, e)
		}
		plan := d.plan(len(table.Loss), 9)
		sure, e := search.Sure(table, plan)
		if bound, f := search.Bound(other, plan); bound != negative(sure) || e != f {
			t.Error(table, plan, sure, e, bound, f)
		}
		used, its := mustUsed(t, table)
		if others, turns := mustUsed(t, other); !slices.Equal(others, its) || !slices.Equal(turns, used) {
			t.Error(table, used, its, others, turns)
		}
	})
}

// P3.15: rows and columns in another order.
func TestInAnotherOrder(t *testing.T) {
	ask(t, 1200, func(t *testing.T, d *dice, table api.SearchTable) {
		rows, columns := d.order(len(table.Loss)), d.order(len(table.Loss[0]))
		other := picked(table, rows, columns)
		if value := mustValue(t, other); value != mustValue(t, table) {
			t.Error(table, rows, columns, value)
		}
		moved := func(days, order []int) []int {
			var all []int
			for _, day := range days {
				all = append(all, order[day])
			}
			return slices.Sorted(slices.Values(all))
		}
		usedRows, usedColumns := mustUsed(t, table)
		if i, j := mustUsed(t, other); !slices.Equal(moved(i, rows), usedRows) || !slices.Equal(moved(j, columns), usedColumns) {
			t.Error(table, rows, columns, i, j, usedRows, usedColumns)
		}
	})
}

// P3.16
func TestMore(t *testing.T) {
	ask(t, 1200, func(t *testing.T, d *dice, table api.SearchTable) {
		value := mustValue(t, table)
		if rows := len(table.Loss); rows > 1 {
			row := d.upTo(rows - 1)
			if fewer := mustValue(t, picked(table, slices.Delete(upTo(rows), row, row+1), upTo(len(table.Loss[0])))); less(value, fewer) {
				t.Error(table, row, value, fewer)
			}
		}
		if columns := len(table.Loss[0]); columns > 1 {
			column := d.upTo(columns - 1)
			if fewer := mustValue(t, picked(table, upTo(len(table.Loss)), slices.Delete(upTo(columns), column, column+1))); less(fewer, value) {
				t.Error(table, column, value, fewer)
			}
		}
		greater := cloned(table)
		row, column := d.upTo(len(table.Loss)-1), d.upTo(len(table.Loss[0])-1)
		greater.Loss[row][column] += int64(d.upTo(int(api.MaxSearchLoss - table.Loss[row][column])))
		if more := mustValue(t, greater); less(more, value) {
			t.Error(table, greater, value, more)
		}
	})
}
