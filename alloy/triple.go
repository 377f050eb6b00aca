package alloy

import "iter"

// triples yields all strictly increasing triples of the numbers below n, in lexicographic order.
func triples(n int) iter.Seq[[3]int] {
	return func(yield func([3]int) bool) {
		for i := range n {
			for j := i + 1; j < n; j++ {
				for k := j + 1; k < n; k++ {
					if !yield([3]int{i, j, k}) {
						return
					}
				}
			}
		}
	}
}
