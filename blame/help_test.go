package blame_test

import (
	"slices"
	"testing"

	"porringer/api"
	"porringer/blame"
)

func list(numbers ...int) []int { return numbers }

func lists(several ...[]int) [][]int { return several }

// book returns a book with so many inns, and hires.
func book(inns int, hires ...[]int) api.BlameBook {
	return api.BlameBook{Inns: inns, Hires: hires}
}

// chapterB, chapterC and chapterD are the books B, C and D of the chapter's examples.
func chapterB() api.BlameBook { return book(5, list(0, 1), list(1, 2), list(2, 3), list(0, 3)) }
func chapterC() api.BlameBook { return book(4, list(2), list(0, 1, 2), list(1, 3)) }
func chapterD() api.BlameBook { return book(2, list(), list(0)) }

// fullBook has as many inns and hires as there can be.
func fullBook() api.BlameBook {
	return book(8, list(0, 1, 2, 3, 4, 5, 6, 7), list(6, 7), list(0, 1), list(2, 3, 4), list(3, 4), list(5, 6, 7), list(0, 1), list(2, 5), list(1, 2), list(0, 7))
}

// pairBook has hires of two inns each, none of which is in two of them.
func pairBook() api.BlameBook { return book(8, list(0, 1), list(2, 3), list(4, 5), list(6, 7)) }

// same tells whether lists of lists are equal.
func same(one, other [][]int) bool { return slices.EqualFunc(one, other, slices.Equal[[]int]) }

// sameBook tells whether books are equal.
func sameBook(one, other api.BlameBook) bool {
	return one.Inns == other.Inns && same(one.Hires, other.Hires)
}

// cloned returns a copy of lists with memory of its own.
func cloned(several [][]int) [][]int {
	var copies [][]int
	for _, one := range several {
		copies = append(copies, slices.Clone(one))
	}
	return copies
}

// dice makes numbers that look as if by chance, but are the same in each run.
type dice uint64

func (d *dice) upTo(most int) int {
	*d = *d*6364136223846793005 + 1442695040888963407
	return int(uint64(*d)>>33) % (most + 1)
}

// some returns a strictly increasing list of numbers below n, each with a chance of one by so many.
func (d *dice) some(n, by int) []int {
	var list []int
	for number := range n {
		if d.upTo(by-1) == 0 {
			list = append(list, number)
		}
	}
	return list
}

// book returns one with up to so many inns and hires. A hire without an inn is rare.
func (d *dice) book(inns, hires int) api.BlameBook {
	b := book(1 + d.upTo(inns-1))
	by := 2 + d.upTo(2)
	for range d.upTo(hires) {
		hire := d.some(b.Inns, by)
		if len(hire) == 0 && d.upTo(9) > 0 {
			hire = list(d.upTo(b.Inns - 1))
		}
		b.Hires = append(b.Hires, hire)
	}
	return b
}

// sets returns up to so many sets of inns; often they are tight blames.
func (d *dice) sets(b api.BlameBook, most int) [][]int {
	var sets [][]int
	tight := tightOf(b)
	for range d.upTo(most) {
		if len(tight) > 0 && d.upTo(3) > 0 {
			sets = append(sets, slices.Clone(tight[d.upTo(len(tight)-1)]))
		} else {
			sets = append(sets, d.some(b.Inns, 3))
		}
	}
	return sets
}

// ask calls a check with many books, of few and of many inns.
func ask(t *testing.T, many int, check func(t *testing.T, d *dice, b api.BlameBook)) {
	t.Helper()
	d := dice(1)
	for i := range many {
		b := d.book([]int{3, 5, api.MaxBlameInns}[i%3], []int{4, api.MaxBlameHires}[i%2])
		check(t, &d, b)
		if t.Failed() {
			t.Fatalf("book %d: %v", i, b)
		}
	}
}

// everySmall calls a function with all books of up to three inns, and up to three hires.
func everySmall(visit func(b api.BlameBook)) {
	for inns := 1; inns <= 3; inns++ {
		all := [][][]int{nil}
		for range 4 {
			var longer [][][]int
			for _, hires := range all {
				visit(book(inns, cloned(hires)...))
				for _, hire := range setsOf(inns) {
					longer = append(longer, append(slices.Clone(hires), hire))
				}
			}
			all = longer
		}
	}
}

// setsOf returns all strictly increasing lists of numbers below n, in lexicographic order.
func setsOf(n int) [][]int {
	var all [][]int
	for mask := range 1 << n {
		var list []int
		for number := range n {
			if mask>>number&1 == 1 {
				list = append(list, number)
			}
		}
		all = append(all, list)
	}
	slices.SortFunc(all, slices.Compare)
	return all
}

// meet tells whether two lists have a number in common.
func meet(one, other []int) bool {
	return slices.ContainsFunc(one, func(number int) bool { return slices.Contains(other, number) })
}

// isIn tells whether a list is in another one, as a part or as the whole.
func isIn(one, other []int) bool {
	return !slices.ContainsFunc(one, func(number int) bool { return !slices.Contains(other, number) })
}

// missedBy returns by the definition the first hire that a set does not blame; -1 if it is a blame.
func missedBy(b api.BlameBook, set []int) int {
	return slices.IndexFunc(b.Hires, func(hire []int) bool { return !meet(set, hire) })
}

// without returns a list without a number.
func without(list []int, number int) []int {
	return slices.DeleteFunc(slices.Clone(list), func(one int) bool { return one == number })
}

// spareOf returns by the definition the inns of a blame that can be left out, each by itself.
func spareOf(b api.BlameBook, set []int) []int {
	var spare []int
	for _, inn := range set {
		if missedBy(b, without(set, inn)) < 0 {
			spare = append(spare, inn)
		}
	}
	return spare
}

// blamesOf returns by the definition all blames, in lexicographic order.
func blamesOf(b api.BlameBook) [][]int {
	return slices.DeleteFunc(setsOf(b.Inns), func(set []int) bool { return missedBy(b, set) >= 0 })
}

// tightOf returns by the definition all tight blames, in lexicographic order.
func tightOf(b api.BlameBook) [][]int {
	return slices.DeleteFunc(blamesOf(b), func(set []int) bool { return len(spareOf(b, set)) > 0 })
}

// forgets tells by the definition whether a list forgets a blame.
func forgets(list [][]int, blame []int) bool {
	return !slices.ContainsFunc(list, func(set []int) bool { return isIn(set, blame) })
}

// areApart tells by the definition whether hires are apart.
func areApart(b api.BlameBook, hires []int) bool {
	for i, hire := range hires {
		if len(b.Hires[hire]) == 0 {
			return false
		}
		for _, other := range hires[:i] {
			if meet(b.Hires[hire], b.Hires[other]) {
				return false
			}
		}
	}
	return true
}

// coreOf returns by the definition the core of a book.
func coreOf(b api.BlameBook) api.BlameBook {
	core := book(b.Inns)
	for i, hire := range b.Hires {
		idle := false
		for j, other := range b.Hires {
			equal := slices.Equal(other, hire)
			idle = idle || isIn(other, hire) && !equal || equal && j < i
		}
		if !idle {
			core.Hires = append(core.Hires, slices.Clone(hire))
		}
	}
	slices.SortFunc(core.Hires, slices.Compare)
	return core
}

// kindOf returns by the definition whether an inn is blamed, if there are tight blames.
func kindOf(tight [][]int, inn int) int {
	with := 0
	for _, set := range tight {
		if slices.Contains(set, inn) {
			with++
		}
	}
	switch with {
	case 0:
		return api.BlameNever
	case len(tight):
		return api.BlameSure
	}
	return api.BlameMay
}

func hasBlame(b api.BlameBook) bool {
	return !slices.ContainsFunc(b.Hires, func(hire []int) bool { return len(hire) == 0 })
}

func mustFewest(t *testing.T, b api.BlameBook) int {
	t.Helper()
	many, e := blame.Fewest(b)
	if e != api.OK {
		t.Fatal(b, e)
	}
	return many
}

func mustAll(t *testing.T, b api.BlameBook) [][]int {
	t.Helper()
	all, e := blame.All(b)
	if e != api.OK {
		t.Fatal(b, e)
	}
	return all
}

func mustApart(t *testing.T, b api.BlameBook) []int {
	t.Helper()
	hires, e := blame.Apart(b)
	if e != api.OK {
		t.Fatal(b, e)
	}
	return hires
}

func mustCore(t *testing.T, b api.BlameBook) api.BlameBook {
	t.Helper()
	core, e := blame.Core(b)
	if e != api.OK {
		t.Fatal(b, e)
	}
	return core
}

func mustDual(t *testing.T, b api.BlameBook) api.BlameBook {
	t.Helper()
	dual, e := blame.Dual(b)
	if e != api.OK {
		t.Fatal(b, e)
	}
	return dual
}

func mustKind(t *testing.T, b api.BlameBook, inn int) int {
	t.Helper()
	kind, e := blame.Kind(b, inn)
	if e != api.OK {
		t.Fatal(b, inn, e)
	}
	return kind
}
