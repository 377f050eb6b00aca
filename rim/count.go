package rim

import (
	"porringer/api"
	"porringer/kit"
)

func checkKinds(kinds int) api.Errno {
	if !kit.Within(1, api.MaxRimKinds, kinds) {
		return api.ErrArg
	}
	return api.OK
}

// checkCount returns the error of kinds and of a number of touches that are counted.
func checkCount(kinds, touches int) api.Errno {
	if e := checkKinds(kinds); e != api.OK {
		return e
	}
	if !kit.Within(1, api.MaxRimCount, touches) {
		return api.ErrMany
	}
	return api.OK
}

// power returns how many lists of so many touches there are: kinds to the power of their number.
func power(kinds, touches int) int64 {
	many := int64(1)
	for range touches {
		many *= int64(kinds)
	}
	return many
}

// divisors returns all divisors of a number that are less than it, increasing.
func divisors(number int) []int {
	var all []int
	for d := 1; d < number; d++ {
		if number%d == 0 {
			all = append(all, d)
		}
	}
	return all
}

// single returns how many different rims of so many touches are single. Each is turned to as many different lists as it
// has touches. All lists that are left are single rims of a length that divides the number of touches, put to themselves.
func single(kinds, touches int) int64 {
	many := power(kinds, touches)
	for _, length := range divisors(touches) {
		many -= int64(length) * single(kinds, length)
	}
	return many / int64(touches)
}

// different returns how many different rims of so many touches there are.
func different(kinds, touches int) int64 {
	many := single(kinds, touches)
	for _, length := range divisors(touches) {
		many += single(kinds, length)
	}
	return many
}
