package kit

import "porringer/api"

// Divisor returns the greatest common divisor of numbers; 1 if all are 0, so that one can divide by it.
func Divisor(numbers ...int64) int64 {
	var d int64
	for _, n := range numbers {
		for n != 0 {
			d, n = n, d%n
		}
	}
	return max(d, -d, 1)
}

// Ratio returns num by den in least terms; den is above 0.
func Ratio(num, den int64) api.Ratio {
	d := Divisor(num, den)
	return api.Ratio{Num: num / d, Den: den / d}
}

// Below reports whether one is less than other. Each Num multiplied by the other's Den is a number of 64 bits.
func Below(one, other api.Ratio) bool {
	return one.Num*other.Den < other.Num*one.Den
}
