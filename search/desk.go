package search

import (
	"slices"

	"porringer/api"
	"porringer/kit"
)

// partsAt is where losses have the sum of all parts, behind those against each column.
const partsAt = api.MaxSearchDays

// losses is those of a plan against each column, multiplied by the sum of its parts, and behind them this sum.
type losses [partsAt + 1]int64

// plan is the parts of a plan of rows, with 0 for the rows that the table has not.
type plan [api.MaxSearchDays]int64

// desk is a valid table as one side sees it: the side chooses a row, and wants the loss to be great.
type desk struct {
	api.SearchTable
}

// newDesks returns a table as the searchers see it, and as the shop does, or the table's error. To the shop columns are
// rows, and losses have the other sign; so what the shop does best is found just as what the searchers do.
func newDesks(t api.SearchTable) (searchers, shop desk, e api.Errno) {
	if e := CheckTable(t); e != api.OK {
		return desk{}, desk{}, e
	}
	searchers = desk{t}
	shop.Loss = make([][]int64, searchers.width())
	for _, row := range t.Loss {
		for column, loss := range row {
			shop.Loss[column] = append(shop.Loss[column], -loss)
		}
	}
	return searchers, shop, api.OK
}

// width returns how many columns there are.
func (d desk) width() int {
	return len(d.Loss[0])
}

// newPlan returns parts as a plan of its own, or the error of the plan.
func (d desk) newPlan(parts []int64) (plan, api.Errno) {
	if len(parts) != len(d.Loss) {
		return plan{}, api.ErrEqual
	}
	if !kit.Within(0, api.MaxSearchPart, parts...) {
		return plan{}, api.ErrRange
	}
	var p plan
	copy(p[:], parts)
	var sums losses
	d.weigh(p, &sums)
	if sums == (losses{}) {
		return plan{}, api.ErrArg
	}
	return p, api.OK
}

// handOver returns the parts of a plan as a list of its own.
func (d desk) handOver(p plan) []int64 {
	parts := make([]int64, len(d.Loss))
	copy(parts, p[:])
	return parts
}

// weigh makes sums those of a plan; they may hold those of another one.
func (d desk) weigh(p plan, sums *losses) {
	clear(sums[:])
	for row, numbers := range d.Loss {
		for column, loss := range numbers {
			sums[column] += p[row] * loss
		}
		sums[partsAt] += p[row]
	}
}

// least returns the least loss of a plan with these sums.
func (d desk) least(sums losses) api.Ratio {
	return kit.Ratio(slices.Min(sums[:d.width()]), sums[partsAt])
}

// sure returns of what a plan is sure.
func (d desk) sure(p plan) api.Ratio {
	var sums losses
	d.weigh(p, &sums)
	return d.least(sums)
}

// worst returns the columns in which the loss of a plan is the least, increasing.
func (d desk) worst(p plan) []int {
	var sums losses
	d.weigh(p, &sums)
	numbers := sums[:d.width()]
	var columns []int
	for column, number := range numbers {
		if number == slices.Min(numbers) {
			columns = append(columns, column)
		}
	}
	return columns
}

func negative(r api.Ratio) api.Ratio {
	return api.Ratio{Num: -r.Num, Den: r.Den}
}
