package search

import (
	"maps"
	"slices"

	"porringer/api"
	"porringer/kit"
)

// choice is some rows, and as many columns; of both lists the first numbers, as many as there are, are meant.
type choice struct {
	many          int
	rows, columns [api.MaxSearchDays]int
}

// choices yields all choices of rows and columns.
func (d desk) choices(yield func(choice) bool) {
	for rows := range kit.Lists(len(d.Loss), anyIndex) {
		for columns := range kit.Lists(d.width(), anyIndex) {
			if len(columns) != len(rows) {
				continue
			}
			c := choice{many: len(rows)}
			copy(c.rows[:], rows)
			copy(c.columns[:], columns)
			if !yield(c) {
				return
			}
		}
	}
}

func anyIndex([]int, int) bool { return true }

// planOf returns the plan that uses only the chosen rows and has the same loss in all chosen columns, and false if there
// is none, or more than one. Its parts are in least terms.
//
// By Cramer's rule the part of a row is the determinant of the chosen losses with 1 in place of each loss of the row. By
// Hadamard's bound it is at most 2 * (2 * MaxSearchLoss)^3, which is less than MaxSearchPart.
func (d desk) planOf(c choice) (plan, bool) {
	chosen := make([][]int64, c.many)
	for i := range chosen {
		chosen[i] = d.Loss[c.rows[i]]
	}
	var p plan
	for i, row := range chosen {
		chosen[i] = slices.Repeat([]int64{1}, len(row))
		p[c.rows[i]] = determinant(chosen, c.columns[:c.many])
		chosen[i] = row
	}
	by := kit.Divisor(p[:]...)
	if slices.Min(p[:]) < 0 {
		by = -by
	}
	for row := range p {
		p[row] /= by
	}
	return p, slices.Min(p[:]) >= 0 && p != (plan{})
}

// determinant returns that of the numbers that rows have in columns.
func determinant(rows [][]int64, columns []int) int64 {
	if len(rows) == 0 {
		return 1
	}
	var sum int64
	sign := int64(1)
	for at, column := range columns {
		sum += sign * rows[0][column] * determinant(rows[1:], without(columns, at))
		sign = -sign
	}
	return sum
}

// without returns a list without one of its elements, and leaves the list as it is.
func without(list []int, at int) []int {
	return append(list[:at:at], list[at+1:]...)
}

func (d desk) surer(one, other plan) bool {
	return kit.Below(d.sure(other), d.sure(one))
}

// bestPlans returns best plans by the choices that tell them. All best plans are mixed of these: by the theorem of Shapley
// and Snow each one that cannot be mixed of others is told by a choice.
func (d desk) bestPlans() map[choice]plan {
	plans := map[choice]plan{}
	for c := range d.choices {
		if p, found := d.planOf(c); found {
			plans[c] = p
		}
	}
	surest, _ := kit.Best(maps.Values(plans), d.surer)
	value := d.sure(surest)
	var sums losses
	for c, p := range plans {
		d.weigh(p, &sums)
		if d.least(sums) != value {
			delete(plans, c)
		}
	}
	return plans
}

// bestPlan returns a best plan: the last one, in lexicographic order, of bestPlans, in whatever order the map has them.
func (d desk) bestPlan() plan {
	p, _ := kit.Best(maps.Values(d.bestPlans()), func(one, other plan) bool {
		return slices.Compare(one[:], other[:]) > 0
	})
	return p
}

// used returns the rows that have a part above 0 in some best plan, increasing.
func (d desk) used() []int {
	var mixed plan
	for _, p := range d.bestPlans() {
		for row, part := range p {
			mixed[row] += part
		}
	}
	var rows []int
	for row, part := range mixed {
		if part > 0 {
			rows = append(rows, row)
		}
	}
	return rows
}
