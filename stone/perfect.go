package stone

import (
	"iter"
	"slices"

	"porringer/api"
	"porringer/kit"
)

// factorings yields, in lexicographic order, all lists of factors greater than 1 that are a number, multiplied.
func factorings(number int) iter.Seq[[]int] {
	fits := func(list []int, factor int) bool {
		return factor > 1 && number%(product(list)*factor) == 0
	}
	return func(yield func([]int) bool) {
		for list := range kit.Grown(number+1, fits) {
			if product(list) == number && !yield(list) {
				return
			}
		}
	}
}

// product returns all numbers of a list, multiplied.
func product(list []int) int {
	product := 1
	for _, number := range list {
		product *= number
	}
	return product
}

// factors returns the factors of the set.
func (s scale) factors() []int64 {
	var factors []int64
	for kind := range s.weights {
		factors = append(factors, s.size(s.many[kind]))
	}
	return factors
}

// perfect returns the perfect set with factors.
func (p pans) perfect(factors []int) []api.StoneKind {
	var kinds []api.StoneKind
	weight := int64(1)
	for _, factor := range factors {
		many := int64(factor-1) / int64(p)
		kinds = append(kinds, api.StoneKind{Weight: weight, Many: many})
		weight *= int64(factor)
	}
	return kinds
}

// allPerfect returns all perfect sets with a sum, in the lexicographic order of their factors.
func (p pans) allPerfect(sum int64) [][]api.StoneKind {
	var all [][]api.StoneKind
	for factors := range factorings(int(p.size(sum))) {
		all = append(all, p.perfect(factors))
	}
	return all
}

// few returns how few weights are enough for an amount. Each weight can lie in as many ways as a kind of one has numbers, and
// these, multiplied, are all sums that there can be, of which the span of the amount asks for its size.
func (p pans) few(amount int64) int {
	few := 0
	for sums := int64(1); sums < p.size(amount); sums *= p.size(1) {
		few++
	}
	return few
}

// enough returns a set of as few weights as are enough for an amount: the perfect one with one weight of each kind.
func (p pans) enough(amount int64) []api.StoneKind {
	factor := int(p.size(1))
	return p.perfect(slices.Repeat([]int{factor}, p.few(amount)))
}
