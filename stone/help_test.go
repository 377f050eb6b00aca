package stone_test

import (
	"slices"
	"testing"

	"porringer/api"
	"porringer/stone"
)

func list(numbers ...int64) []int64 { return numbers }

// set returns one: each weight is followed by how many there are of it.
func set(numbers ...int64) []api.StoneKind {
	var kinds []api.StoneKind
	for pair := range slices.Chunk(numbers, 2) {
		kinds = append(kinds, api.StoneKind{Weight: pair[0], Many: pair[1]})
	}
	return kinds
}

func sets(several ...[]api.StoneKind) [][]api.StoneKind { return several }

// chapterK, chapterD and chapterE are the sets K, D and E of the chapter's examples.
func chapterK() []api.StoneKind { return set(1, 1, 3, 1, 9, 1) }
func chapterD() []api.StoneKind { return set(1, 1, 2, 2) }
func chapterE() []api.StoneKind { return set(2, 1, 3, 1) }

// equalSets tells whether lists of sets are equal.
func equalSets(one, other [][]api.StoneKind) bool { return slices.EqualFunc(one, other, slices.Equal) }

// upTo returns the numbers from 1 to most.
func upTo(most int64) []int64 {
	var numbers []int64
	for number := range most {
		numbers = append(numbers, number+1)
	}
	return numbers
}

// dice makes numbers that look as if by chance, but are the same in each run.
type dice uint64

func (d *dice) upTo(most int) int {
	*d = *d*6364136223846793005 + 1442695040888963407
	return int(uint64(*d)>>33) % (most + 1)
}

// number returns one from 1 to most.
func (d *dice) number(most int64) int64 { return int64(d.upTo(int(most)-1)) + 1 }

// set returns a valid set whose sum is at most so much: of few kinds or of many, with great weights or with small ones.
func (d *dice) set(sum int64) []api.StoneKind {
	kinds := d.number(api.MaxStoneKinds)
	step := d.number(max(sum/(kinds*kinds), 1))
	var made []api.StoneKind
	for weight := d.number(step); weight <= sum && kinds > 0; weight += d.number(step) {
		many := d.number(max(sum/weight/kinds, 1))
		made = append(made, api.StoneKind{Weight: weight, Many: many})
		sum -= weight * many
		kinds--
	}
	return made
}

// perfect returns a perfect set whose sum is at most so much.
func (d *dice) perfect(pans int, sum int64) []api.StoneKind {
	var factors []int64
	size := int64(pans)*sum + 1
	for size > int64(pans) && len(factors) < api.MaxStoneKinds {
		many := min(d.number(size/int64(pans)), d.number(6))
		if factor := int64(pans)*many + 1; factor <= size {
			factors = append(factors, factor)
			size /= factor
		} else {
			break
		}
	}
	if len(factors) == 0 {
		factors = list(int64(pans) + 1)
	}
	return perfectOf(pans, factors)
}

// lay returns one of a set.
func (d *dice) lay(set []api.StoneKind, pans int) []int64 {
	var lay []int64
	for _, k := range set {
		lay = append(lay, leastOf(k, pans)+int64(d.upTo(int(k.Many-leastOf(k, pans)))))
	}
	return lay
}

// ask calls a check with many sets whose sums are at most so much, and with both numbers of pans.
func ask(t *testing.T, many int, sum int64, check func(t *testing.T, d *dice, set []api.StoneKind, pans int)) {
	t.Helper()
	d := dice(1)
	for i := range many {
		pans := 1 + i%2
		most := []int64{min(sum, 30), min(sum, 100), sum}[i%3]
		asked := d.set(most)
		if i%7 == 0 {
			asked = d.perfect(pans, most)
		}
		check(t, &d, asked, pans)
		if t.Failed() {
			t.Fatalf("set %d: %v, pans %d", i, asked, pans)
		}
	}
}

// askAll calls a check with all sets whose sums are at most 11, and with many others, and with both numbers of pans.
func askAll(t *testing.T, many int, sum int64, check func(t *testing.T, d *dice, set []api.StoneKind, pans int)) {
	t.Helper()
	d := dice(2)
	for _, set := range setsUpTo(11) {
		for _, pans := range []int{1, 2} {
			check(t, &d, set, pans)
			if t.Failed() {
				t.Fatal(set, pans)
			}
		}
	}
	ask(t, many, sum, check)
}

// setsUpTo returns by the definition all valid sets whose sums are at most so much.
func setsUpTo(sum int64) [][]api.StoneKind {
	all := sets(nil)
	for i := 0; i < len(all); i++ {
		begun, left, weight := all[i], sum-sumOf(all[i]), int64(1)
		if len(begun) > 0 {
			weight = begun[len(begun)-1].Weight + 1
		}
		for ; weight <= left && len(begun) < api.MaxStoneKinds; weight++ {
			for many := int64(1); many*weight <= left; many++ {
				all = append(all, append(slices.Clone(begun), api.StoneKind{Weight: weight, Many: many}))
			}
		}
	}
	return all[1:]
}

// sumOf returns by the definition the sum of a set.
func sumOf(set []api.StoneKind) int64 {
	var sum int64
	for _, k := range set {
		sum += k.Weight * k.Many
	}
	return sum
}

// leastOf returns by the definition the least number that a lay has for a kind.
func leastOf(k api.StoneKind, pans int) int64 {
	if pans == 1 {
		return 0
	}
	return -k.Many
}

// factorsOf returns by the definition the factors of a set.
func factorsOf(set []api.StoneKind, pans int) []int64 {
	var factors []int64
	for _, k := range set {
		if pans == 1 {
			factors = append(factors, k.Many+1)
		} else {
			factors = append(factors, 2*k.Many+1)
		}
	}
	return factors
}

// productOf returns all numbers of a list, multiplied.
func productOf(numbers []int64) int64 {
	product := int64(1)
	for _, number := range numbers {
		product *= number
	}
	return product
}

// perfectOf returns the set whose least weight is 1, and each next one the one before it, multiplied by its factor.
func perfectOf(pans int, factors []int64) []api.StoneKind {
	var made []api.StoneKind
	for i, factor := range factors {
		made = append(made, api.StoneKind{Weight: productOf(factors[:i]), Many: (factor - 1) / int64(pans)})
	}
	return made
}

// laysOf returns by the definition all lays of a set, in lexicographic order.
func laysOf(set []api.StoneKind, pans int) [][]int64 {
	all := [][]int64{nil}
	for _, k := range set {
		var longer [][]int64
		for _, begun := range all {
			for number := leastOf(k, pans); number <= k.Many; number++ {
				longer = append(longer, append(slices.Clone(begun), number))
			}
		}
		all = longer
	}
	return all
}

// weighsOf returns by the definition what a lay weighs, and how many weights it uses.
func weighsOf(set []api.StoneKind, lay []int64) (int64, int64) {
	var amount, uses int64
	for i, number := range lay {
		amount += set[i].Weight * number
		uses += max(number, -number)
	}
	return amount, uses
}

// middle is the index of the amount 0 in tables of amounts from -MaxStoneSum to MaxStoneSum.
const middle = api.MaxStoneSum

// table tells something of each amount from -MaxStoneSum to MaxStoneSum.
type table [2*middle + 1]int64

// waysOf returns how many lays weigh each amount, from the last kind to the first one.
func waysOf(set []api.StoneKind, pans int) table {
	ways := table{middle: 1}
	for _, k := range slices.Backward(set) {
		var more table
		for at, many := range ways {
			for number := leastOf(k, pans); number <= k.Many && many > 0; number++ {
				more[at+int(number*k.Weight)] += many
			}
		}
		ways = more
	}
	return ways
}

// none is more weights than any lay uses.
const none = 1 << 20

// fewestOf returns how many weights the best lay of each amount uses, of all kinds from each one on; none if there is none.
func fewestOf(set []api.StoneKind, pans int) []table {
	nothing := table{}
	for at := range nothing {
		nothing[at] = none
	}
	fewest := slices.Repeat([]table{nothing}, len(set)+1)
	fewest[len(set)][middle] = 0
	for kind, k := range slices.Backward(set) {
		for at, rest := range fewest[kind+1] {
			for number := leastOf(k, pans); number <= k.Many && rest < none; number++ {
				to := &fewest[kind][at+int(number*k.Weight)]
				*to = min(*to, rest+max(number, -number))
			}
		}
	}
	return fewest
}

// bestOf returns the best lay of an amount, which some lay weighs: for each kind the least number with which as few are enough.
func bestOf(set []api.StoneKind, pans int, fewest []table, amount int64) []int64 {
	var lay []int64
	left := amount
	for kind, k := range set {
		number := leastOf(k, pans)
		for ; ; number++ {
			rest := left - number*k.Weight + middle
			if rest >= 0 && rest < int64(len(fewest[0])) && max(number, -number)+fewest[kind+1][rest] == fewest[kind][left+middle] {
				break
			}
		}
		lay = append(lay, number)
		left -= number * k.Weight
	}
	return lay
}

// flawOf returns by the definition the least amount from 0 to the sum for which there is not just one lay; -1 if a set is
// perfect.
func flawOf(set []api.StoneKind, pans int) int64 {
	ways := waysOf(set, pans)
	for amount := range sumOf(set) + 1 {
		if ways[middle+amount] != 1 {
			return amount
		}
	}
	return -1
}

// factoringsOf returns all lists of factors greater than 1 that are a number, multiplied, in lexicographic order.
func factoringsOf(number int64) [][]int64 {
	if number == 1 {
		return [][]int64{nil}
	}
	var all [][]int64
	for factor := int64(2); factor <= number; factor++ {
		if number%factor == 0 {
			for _, rest := range factoringsOf(number / factor) {
				all = append(all, append(list(factor), rest...))
			}
		}
	}
	return all
}

func mustCheckLay(t *testing.T, set []api.StoneKind, pans int, lay []int64) (int64, int64) {
	t.Helper()
	amount, uses, e := stone.CheckLay(set, pans, lay)
	if e != api.OK {
		t.Fatal(set, pans, lay, e)
	}
	return amount, uses
}

func mustWeighs(t *testing.T, set []api.StoneKind, pans int) []int64 {
	t.Helper()
	amounts, e := stone.Weighs(set, pans)
	if e != api.OK {
		t.Fatal(set, pans, e)
	}
	return amounts
}

func mustUpto(t *testing.T, set []api.StoneKind, pans int) int64 {
	t.Helper()
	upto, e := stone.Upto(set, pans)
	if e != api.OK {
		t.Fatal(set, pans, e)
	}
	return upto
}

func mustWays(t *testing.T, set []api.StoneKind, pans int, amount int64) int64 {
	t.Helper()
	ways, e := stone.Ways(set, pans, amount)
	if e != api.OK {
		t.Fatal(set, pans, amount, e)
	}
	return ways
}

func mustFewest(t *testing.T, set []api.StoneKind, pans int, amount int64) int64 {
	t.Helper()
	fewest, e := stone.Fewest(set, pans, amount)
	if e != api.OK {
		t.Fatal(set, pans, amount, e)
	}
	return fewest
}

func mustFactors(t *testing.T, set []api.StoneKind, pans int) []int64 {
	t.Helper()
	factors, e := stone.Factors(set, pans)
	if e != api.OK {
		t.Fatal(set, pans, e)
	}
	return factors
}

func mustAll(t *testing.T, pans int, amount int64) [][]api.StoneKind {
	t.Helper()
	all, e := stone.All(pans, amount)
	if e != api.OK {
		t.Fatal(pans, amount, e)
	}
	return all
}

func mustFew(t *testing.T, pans int, amount int64) int64 {
	t.Helper()
	few, e := stone.Few(pans, amount)
	if e != api.OK {
		t.Fatal(pans, amount, e)
	}
	return few
}

func mustEnough(t *testing.T, pans int, amount int64) []api.StoneKind {
	t.Helper()
	set, e := stone.Enough(pans, amount)
	if e != api.OK {
		t.Fatal(pans, amount, e)
	}
	return set
}
