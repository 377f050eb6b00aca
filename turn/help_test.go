package turn_test

import (
	"slices"
	"testing"

	"porringer/api"
	"porringer/turn"
)

func list(numbers ...int) []int { return numbers }

// dice makes numbers that look as if by chance, but are the same in each run.
type dice uint64

func (d *dice) upTo(most int) int {
	*d = *d*6364136223846793005 + 1442695040888963407
	return int(uint64(*d)>>33) % (most + 1)
}

// order returns the numbers below n in some order.
func (d *dice) order(n int) []int {
	var order []int
	for number := range n {
		order = slices.Insert(order, d.upTo(len(order)), number)
	}
	return order
}

// code returns one of so many shops.
func (d *dice) code(shops int) []int {
	var code []int
	for left := shops; left > 0; left-- {
		code = append(code, d.upTo(left-1))
	}
	return code
}

// step returns one: most are small, and some as great as can be.
func (d *dice) step() int64 {
	step := int64(d.upTo(1<<20))<<20 + int64(d.upTo(1<<20-1)) + 1
	switch d.upTo(5) {
	case 0:
		return min(step, api.MaxTurnStep)
	case 1:
		return api.MaxTurnStep - step>>25
	}
	return step>>30 + 1
}

// begun returns a beginning of so many shops: some that a step makes, others of which only the last place is by chance, and
// others that are by chance.
func (d *dice) begun(shops int) []int {
	step, many := d.step(), d.upTo(shops)
	order := roundOf(shops, step)
	switch d.upTo(2) {
	case 0:
		if many < shops {
			other := many + d.upTo(shops-many-1)
			order[many], order[other] = order[other], order[many]
			many++
		}
	case 1:
		order, many = d.order(shops), d.upTo(min(shops, 5))
	}
	return slices.Clone(order[:many])
}

// ask calls a check with many beginnings.
func ask(t *testing.T, many int, check func(t *testing.T, d *dice, shops int, begun []int)) {
	t.Helper()
	d := dice(1)
	for i := range many {
		shops := 1 + d.upTo([]int{api.MaxTurnShops - 1, 7}[i%2])
		begun := d.begun(shops)
		check(t, &d, shops, begun)
		if t.Failed() {
			t.Fatalf("beginning %d: %d %v", i, shops, begun)
		}
	}
}

// askAll calls a check with all beginnings of few shops, and with many others.
func askAll(t *testing.T, many int, check func(t *testing.T, d *dice, shops int, begun []int)) {
	t.Helper()
	d := dice(2)
	for shops := 1; shops <= 6; shops++ {
		for _, begun := range beginningsOf(shops) {
			check(t, &d, shops, begun)
			if t.Failed() {
				t.Fatal(shops, begun)
			}
		}
	}
	ask(t, many, check)
}

// beginningsOf returns by the definition all beginnings of so many shops, in lexicographic order.
func beginningsOf(shops int) [][]int {
	all := [][]int{nil}
	for i := 0; i < len(all); i++ {
		for shop := range shops {
			if !slices.Contains(all[i], shop) {
				all = append(all, append(slices.Clone(all[i]), shop))
			}
		}
	}
	slices.SortFunc(all, slices.Compare)
	return all
}

// ordersOf returns by the definition all orders of so many shops, in lexicographic order.
func ordersOf(shops int) [][]int {
	return slices.DeleteFunc(beginningsOf(shops), func(begun []int) bool { return len(begun) < shops })
}

// codesOf returns by the definition all codes of so many shops.
func codesOf(shops int) [][]int {
	all := [][]int{nil}
	for left := shops; left > 0; left-- {
		var longer [][]int
		for _, begun := range all {
			for number := range left {
				longer = append(longer, append(slices.Clone(begun), number))
			}
		}
		all = longer
	}
	return all
}

// queue returns all shops, as they wait at the beginning.
func queue(shops int) []int {
	var queue []int
	for shop := range shops {
		queue = append(queue, shop)
	}
	return queue
}

// orderOf returns by the definition the order of a code: who is passed over goes to the end of the queue.
func orderOf(code []int) []int {
	var order []int
	waiting := queue(len(code))
	for _, number := range code {
		for range number {
			waiting = append(waiting[1:], waiting[0])
		}
		order = append(order, waiting[0])
		waiting = waiting[1:]
	}
	return order
}

// codeOf returns by the definition the beginning of a code that has the order begun.
func codeOf(shops int, begun []int) []int {
	var code []int
	waiting := queue(shops)
	for _, shop := range begun {
		number := 0
		for ; waiting[0] != shop; number++ {
			waiting = append(waiting[1:], waiting[0])
		}
		code = append(code, number)
		waiting = waiting[1:]
	}
	return code
}

// roundOf returns by the definition the order by a step.
func roundOf(shops int, step int64) []int {
	var code []int
	for left := int64(shops); left > 0; left-- {
		code = append(code, int((step-1)%left))
	}
	return orderOf(code)
}

// countedOf returns the order by a step, of which each shop is counted.
func countedOf(shops, step int) []int {
	var order []int
	waiting := queue(shops)
	for counted := 1; len(waiting) > 0; counted++ {
		if counted%step == 0 {
			order = append(order, waiting[0])
		} else {
			waiting = append(waiting, waiting[0])
		}
		waiting = waiting[1:]
	}
	return order
}

// begins tells whether an order begins with a beginning.
func begins(order, begun []int) bool {
	return len(begun) <= len(order) && slices.Equal(order[:len(begun)], begun)
}

// periodOf returns by the definition the period of a beginning.
func periodOf(shops int, begun []int) int64 {
	for period := int64(1); ; period++ {
		divided := true
		for place := range begun {
			divided = divided && period%int64(shops-place) == 0
		}
		if divided {
			return period
		}
	}
}

// findOf returns by the definition the least step that makes a beginning, of those up to its period; 0 if there is none.
func findOf(shops int, begun []int) int64 {
	code := codeOf(shops, begun)
	period := periodOf(shops, begun)
	for step := int64(1); step <= period; step++ {
		makes := true
		for place, number := range code {
			makes = makes && (step-1)%int64(shops-place) == int64(number)
		}
		if makes {
			return step
		}
	}
	return 0
}

// clashOf tells by the definition whether two places contradict each other. Numbers repeat their rests after as many as
// the product of those by which they are divided.
func clashOf(shops int, code []int, one, two int) bool {
	for number := range (shops - one) * (shops - two) {
		if number%(shops-one) == code[one] && number%(shops-two) == code[two] {
			return false
		}
	}
	return true
}

// productOf returns the product of all numbers from 1 to that of shops.
func productOf(shops int) int64 {
	product := int64(1)
	for number := 2; number <= shops; number++ {
		product *= int64(number)
	}
	return product
}

func mustRound(t *testing.T, shops int, step int64) []int {
	t.Helper()
	order, e := turn.Round(shops, step)
	if e != api.OK {
		t.Fatal(shops, step, e)
	}
	return order
}

func mustLast(t *testing.T, shops int, step int64) int {
	t.Helper()
	last, e := turn.Last(shops, step)
	if e != api.OK {
		t.Fatal(shops, step, e)
	}
	return last
}

func mustOrder(t *testing.T, code []int) []int {
	t.Helper()
	order, e := turn.Order(len(code), code)
	if e != api.OK {
		t.Fatal(code, e)
	}
	return order
}

func mustCode(t *testing.T, order []int) []int {
	t.Helper()
	code, e := turn.Code(order)
	if e != api.OK {
		t.Fatal(order, e)
	}
	return code
}

func mustNumber(t *testing.T, order []int) int64 {
	t.Helper()
	number, e := turn.Number(order)
	if e != api.OK {
		t.Fatal(order, e)
	}
	return number
}

func mustNumbered(t *testing.T, shops int, number int64) []int {
	t.Helper()
	order, e := turn.Numbered(shops, number)
	if e != api.OK {
		t.Fatal(shops, number, e)
	}
	return order
}

func mustWish(t *testing.T, shops, shop int) int64 {
	t.Helper()
	step, e := turn.Wish(shops, shop)
	if e != api.OK {
		t.Fatal(shops, shop, e)
	}
	return step
}
