package turn

import "slices"

// orders returns how many orders there are.
func (g guild) orders() int64 {
	orders := int64(1)
	for shop := range g.shops {
		orders *= int64(shop + 1)
	}
	return orders
}

// number returns the number of an order. Each shop counts, like a digit, how many with lesser numbers could have stood in its
// place.
func (g guild) number(order []int) int64 {
	left := g.all()
	number := int64(0)
	for _, shop := range order {
		lesser := slices.Index(left, shop)
		number = number*int64(len(left)) + int64(lesser)
		left = slices.Delete(left, lesser, lesser+1)
	}
	return number
}

// numbered returns the order with a number.
func (g guild) numbered(number int64) []int {
	var order []int
	left := g.all()
	for alike := g.orders(); len(left) > 0; {
		alike /= int64(len(left))
		lesser := int(number / alike)
		number %= alike
		order = append(order, left[lesser])
		left = slices.Delete(left, lesser, lesser+1)
	}
	return order
}
