package alloy

import (
	"iter"

	"porringer/api"
)

// divisor returns the greatest common divisor of numbers; 1 if all are 0, so that one can divide by it.
func divisor(numbers ...int64) int64 {
	var d int64
	for _, n := range numbers {
		for n != 0 {
			d, n = n, d%n
		}
	}
	return max(d, -d, 1)
}

// ratio returns num by den in least terms; den is above 0.
func ratio(num, den int64) api.Ratio {
	d := divisor(num, den)
	return api.Ratio{Num: num / d, Den: den / d}
}

// below reports whether one is less than other.
func below(one, other api.Ratio) bool {
	return one.Num*other.Den < other.Num*one.Den
}

// triples yields all strictly increasing triples of the numbers below n, in lexicographic order.
func triples(n int) iter.Seq[[3]int] {
	return func(yield func([3]int) bool) {
		for i := range n {
			for j := i + 1; j < n; j++ {
				for k := j + 1; k < n; k++ {
					if !yield([3]int{i, j, k}) {
						return
					}
				}
			}
		}
	}
}
