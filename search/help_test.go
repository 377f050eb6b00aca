package search_test

import (
	"math/big"
	"math/bits"
	"slices"
	"testing"

	"porringer/api"
	"porringer/search"
)

func list(numbers ...int) []int { return numbers }

func parts(numbers ...int64) []int64 { return numbers }

func by(num, den int64) api.Ratio { return api.Ratio{Num: num, Den: den} }

// table returns a table with so many columns, and with the losses row by row.
func table(columns int, losses ...int64) api.SearchTable {
	return api.SearchTable{Loss: slices.Collect(slices.Chunk(losses, columns))}
}

// even returns a table in which all losses are the same.
func even(rows, columns int, loss int64) api.SearchTable {
	return table(columns, slices.Repeat(parts(loss), rows*columns)...)
}

// chapterA, chapterB and chapterC are the tables A, B and C of the chapter's examples.
func chapterA() api.SearchTable { return table(2, 3, -1, -2, 4) }
func chapterB() api.SearchTable { return table(2, 1, 2, 0, 3) }
func chapterC() api.SearchTable { return table(3, 0, 1, -1, -1, 0, 1, 1, -1, 0) }

// heavyTable has best plans with great parts that have no common divisor.
func heavyTable() api.SearchTable {
	return table(4, 100, -100, -99, -97, -100, 100, -93, -91, -98, -95, 100, -100, -96, -89, -100, 99)
}

func cloned(t api.SearchTable) api.SearchTable {
	other := api.SearchTable{Loss: slices.Clone(t.Loss)}
	for i, row := range other.Loss {
		other.Loss[i] = slices.Clone(row)
	}
	return other
}

// turned returns the table with rows as columns, and losses with the other sign.
func turned(t api.SearchTable) api.SearchTable {
	var other api.SearchTable
	for j := range t.Loss[0] {
		var row []int64
		for _, numbers := range t.Loss {
			row = append(row, -numbers[j])
		}
		other.Loss = append(other.Loss, row)
	}
	return other
}

// picked returns the table of some rows and columns, in their order.
func picked(t api.SearchTable, rows, columns []int) api.SearchTable {
	var other api.SearchTable
	for _, i := range rows {
		var row []int64
		for _, j := range columns {
			row = append(row, t.Loss[i][j])
		}
		other.Loss = append(other.Loss, row)
	}
	return other
}

// mapped returns the table with all losses changed.
func mapped(t api.SearchTable, change func(loss int64) int64) api.SearchTable {
	other := cloned(t)
	for _, row := range other.Loss {
		for j, loss := range row {
			row[j] = change(loss)
		}
	}
	return other
}

// upTo returns all numbers below n.
func upTo(n int) []int {
	numbers := make([]int, n)
	for i := range numbers {
		numbers[i] = i
	}
	return numbers
}

// alone returns the plan of n days with only one of them.
func alone(n, day int) []int64 {
	plan := make([]int64, n)
	plan[day] = 1
	return plan
}

// dice makes numbers that look as if by chance, but are the same in each run.
type dice uint64

func (d *dice) upTo(most int) int {
	*d = *d*6364136223846793005 + 1442695040888963407
	return int(uint64(*d)>>33) % (most + 1)
}

// table returns one with losses from -most to most.
func (d *dice) table(most int) api.SearchTable {
	rows, columns := 1+d.upTo(api.MaxSearchDays-1), 1+d.upTo(api.MaxSearchDays-1)
	return mapped(even(rows, columns, 0), func(int64) int64 { return int64(d.upTo(2*most) - most) })
}

// plan returns one of n days with parts up to most.
func (d *dice) plan(n, most int) []int64 {
	plan := make([]int64, n)
	for i := range plan {
		plan[i] = int64(max(0, d.upTo(2*most)-most))
	}
	plan[d.upTo(n-1)] = int64(1 + d.upTo(most-1))
	return plan
}

// order returns all numbers below n in some order.
func (d *dice) order(n int) []int {
	numbers := upTo(n)
	for i := range numbers {
		j := d.upTo(i)
		numbers[i], numbers[j] = numbers[j], numbers[i]
	}
	return numbers
}

// ask calls a check with many tables, with few and with many different losses.
func ask(t *testing.T, many int, check func(t *testing.T, d *dice, table api.SearchTable)) {
	t.Helper()
	d := dice(1)
	for i := range many {
		most := []int{1, 2, 10, api.MaxSearchLoss}[i%4]
		check(t, &d, d.table(most))
		if t.Failed() {
			t.Fatalf("table %d", i)
		}
	}
}

func rat(r api.Ratio) *big.Rat { return big.NewRat(r.Num, r.Den) }

// ratio returns a number as the functions have to.
func ratio(r *big.Rat) api.Ratio { return by(r.Num().Int64(), r.Denom().Int64()) }

func less(one, other api.Ratio) bool { return rat(one).Cmp(rat(other)) < 0 }

func negative(r api.Ratio) api.Ratio { return by(-r.Num, r.Den) }

// against returns by the definition the loss of a plan of rows against each column.
func against(t api.SearchTable, rows []int64) []*big.Rat {
	var total int64
	for _, part := range rows {
		total += part
	}
	losses := make([]*big.Rat, len(t.Loss[0]))
	for j := range losses {
		losses[j] = new(big.Rat)
		for i, part := range rows {
			share := big.NewRat(part, total)
			losses[j].Add(losses[j], share.Mul(share, big.NewRat(t.Loss[i][j], 1)))
		}
	}
	return losses
}

// sureOf returns by the definition of what a plan of rows is sure.
func sureOf(t api.SearchTable, rows []int64) api.Ratio {
	return ratio(slices.MinFunc(against(t, rows), (*big.Rat).Cmp))
}

// boundOf returns by the definition by what a plan of columns bounds the loss.
func boundOf(t api.SearchTable, columns []int64) api.Ratio {
	return negative(sureOf(turned(t), columns))
}

// solved returns the one solution of equations, each with what it has to be behind its factors; false if there is not one.
func solved(equations [][]*big.Rat) ([]*big.Rat, bool) {
	n := len(equations)
	for i := range n {
		at := slices.IndexFunc(equations[i:], func(e []*big.Rat) bool { return e[i].Sign() != 0 })
		if at < 0 {
			return nil, false
		}
		equations[i], equations[i+at] = equations[i+at], equations[i]
		first := new(big.Rat).Set(equations[i][i])
		for _, number := range equations[i] {
			number.Quo(number, first)
		}
		for k, equation := range equations {
			if k == i || equation[i].Sign() == 0 {
				continue
			}
			times := new(big.Rat).Set(equation[i])
			for j, number := range equation {
				number.Sub(number, new(big.Rat).Mul(times, equations[i][j]))
			}
		}
	}
	solution := make([]*big.Rat, n)
	for i := range solution {
		solution[i] = equations[i][n]
	}
	return solution, true
}

// bestOf returns the value of a table, and best plans of rows of which all others are mixed. It looks at all corners of the
// plans and the numbers of which they are sure: at a corner, as many parts are 0, or losses are this number, as there are rows.
func bestOf(t api.SearchTable) (api.Ratio, [][]int64) {
	m, n := len(t.Loss), len(t.Loss[0])
	bounds := make([][]int64, 0, m+n) // of the parts, of the number of which the plan is sure, and what they have to be
	for i := range m {
		bounds = append(bounds, append(alone(m, i), 0, 0))
	}
	for j := range n {
		bound := make([]int64, m, m+2)
		for i, row := range t.Loss {
			bound[i] = row[j]
		}
		bounds = append(bounds, append(bound, -1, 0))
	}
	var value *big.Rat
	var best [][]int64
	for mask := range uint(1) << len(bounds) {
		if bits.OnesCount(mask) != m {
			continue
		}
		corner, found := cornerOf(bounds, mask, m)
		if !found || value != nil && corner[m].Cmp(value) < 0 {
			continue
		}
		if value == nil || corner[m].Cmp(value) > 0 {
			value, best = corner[m], nil
		}
		if plan := whole(corner[:m]); !slices.ContainsFunc(best, func(p []int64) bool { return slices.Equal(p, plan) }) {
			best = append(best, plan)
		}
	}
	return ratio(value), best
}

// cornerOf returns the corner at which the bounds of the mask just hold; false if it is none, or if others do not hold.
func cornerOf(bounds [][]int64, mask uint, m int) ([]*big.Rat, bool) {
	rats := func(numbers []int64) []*big.Rat {
		var rats []*big.Rat
		for _, number := range numbers {
			rats = append(rats, big.NewRat(number, 1))
		}
		return rats
	}
	equations := [][]*big.Rat{rats(append(slices.Repeat(parts(1), m), 0, 1))}
	for i, bound := range bounds {
		if mask>>i&1 == 1 {
			equations = append(equations, rats(bound))
		}
	}
	corner, found := solved(equations)
	if !found {
		return nil, false
	}
	for _, bound := range bounds {
		sum := new(big.Rat)
		for i, factor := range rats(bound[:m+1]) {
			sum.Add(sum, factor.Mul(factor, corner[i]))
		}
		if sum.Sign() < 0 {
			return nil, false
		}
	}
	return corner, true
}

// whole returns shares as the least parts that have them.
func whole(shares []*big.Rat) []int64 {
	common := big.NewInt(1)
	for _, share := range shares {
		divisor := new(big.Int).GCD(nil, nil, common, share.Denom())
		common.Mul(common, new(big.Int).Quo(share.Denom(), divisor))
	}
	plan := make([]int64, len(shares))
	for i, share := range shares {
		plan[i] = new(big.Rat).Mul(share, new(big.Rat).SetInt(common)).Num().Int64()
	}
	return plan
}

// usedBy returns the days that have a part above 0 in some of several plans.
func usedBy(plans [][]int64) []int {
	var days []int
	for day := range plans[0] {
		if slices.ContainsFunc(plans, func(plan []int64) bool { return plan[day] > 0 }) {
			days = append(days, day)
		}
	}
	return days
}

// isPure tells by the definition whether a row and a column are a pure answer.
func isPure(t api.SearchTable, row, column int) bool {
	for j := range t.Loss[0] {
		if t.Loss[row][j] < t.Loss[row][column] {
			return false
		}
	}
	for i := range t.Loss {
		if t.Loss[i][column] > t.Loss[row][column] {
			return false
		}
	}
	return true
}

// leftOf returns by the definition what is left of a table.
func leftOf(t api.SearchTable) ([]int, []int) {
	rows, columns := upTo(len(t.Loss)), upTo(len(t.Loss[0]))
	other := turned(t)
	for {
		if i := slices.IndexFunc(rows, func(row int) bool { return canLeave(t, row, rows, columns) }); i >= 0 {
			rows = slices.Delete(rows, i, i+1)
			continue
		}
		j := slices.IndexFunc(columns, func(column int) bool { return canLeave(other, column, columns, rows) })
		if j < 0 {
			return rows, columns
		}
		columns = slices.Delete(columns, j, j+1)
	}
}

// canLeave tells by the definition whether a row can be left out of rows and columns.
func canLeave(t api.SearchTable, row int, rows, columns []int) bool {
	return slices.ContainsFunc(rows, func(other int) bool {
		lesser := func(j int) bool { return t.Loss[other][j] < t.Loss[row][j] }
		greater := func(j int) bool { return t.Loss[other][j] > t.Loss[row][j] }
		return other != row && !slices.ContainsFunc(columns, lesser) && (slices.ContainsFunc(columns, greater) || other < row)
	})
}

func mustValue(t *testing.T, table api.SearchTable) api.Ratio {
	t.Helper()
	value, e := search.Value(table)
	if e != api.OK {
		t.Fatal(table, e)
	}
	return value
}

// mustPlans returns what Rows and Columns do.
func mustPlans(t *testing.T, table api.SearchTable) (rows, columns []int64) {
	t.Helper()
	rows, e := search.Rows(table)
	if e != api.OK {
		t.Fatal(table, e)
	}
	columns, e = search.Columns(table)
	if e != api.OK {
		t.Fatal(table, e)
	}
	return rows, columns
}

func mustUsed(t *testing.T, table api.SearchTable) (rows, columns []int) {
	t.Helper()
	return mustLists(t, table, search.Used)
}

func mustLeft(t *testing.T, table api.SearchTable) (rows, columns []int) {
	t.Helper()
	return mustLists(t, table, search.Left)
}

func mustLists(t *testing.T, table api.SearchTable, f func(api.SearchTable) ([]int, []int, api.Errno)) (rows, columns []int) {
	t.Helper()
	rows, columns, e := f(table)
	if e != api.OK {
		t.Fatal(table, e)
	}
	return rows, columns
}
