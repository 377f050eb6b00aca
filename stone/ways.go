package stone

import (
	"maps"

	"porringer/kit"
)

// partSum is the amount that the first kinds weigh, and the sum of those that are left.
type partSum struct {
	amount, left int64
}

// ways is how many lays of the first kinds there are for each sum.
type ways map[partSum]int64

// ways returns how many lays of all kinds there are for each amount from 0 on.
func (s scale) ways() ways {
	w := ways{{left: s.sum}: 1}
	for left, kind := s.many, 0; left != (stock{}); kind++ {
		w.lay(s, kind)
		left[kind] = 0
	}
	return w
}

// lay goes on from each sum with each number of weights of the next kind. Sums that are so low that what is left cannot bring
// them to 0 are not asked for again.
func (w ways) lay(s scale, kind int) {
	begun := maps.Clone(w)
	clear(w)
	weight, most := s.weights[kind], s.many[kind]
	for sum, many := range begun {
		for number := range s.span(most) {
			w[partSum{sum.amount + number*weight, sum.left - most*weight}] += many
		}
	}
	for sum := range w {
		if sum.amount+sum.left < 0 {
			delete(w, sum)
		}
	}
}

// of returns how many lays of all kinds weigh an amount from 0 on.
func (w ways) of(amount int64) int64 {
	return w[partSum{amount: amount}]
}

// flawed reports whether there is not just one lay for an amount.
func (w ways) flawed(amount int64) bool {
	return w.of(amount) != 1
}

// flaw returns the least amount from 0 to the sum for which there is not just one lay, and false if the set is perfect.
func (s scale) flaw() (int64, bool) {
	return kit.First(between(0, s.sum), s.ways().flawed)
}
