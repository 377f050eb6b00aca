package mould_test

import (
	"slices"
	"testing"

	"porringer/api"
	"porringer/mould"
)

func list(numbers ...int) []int { return numbers }

// book returns a book with the wants that are told as shop, mould, shop, mould and so on.
func book(shops, moulds int, wants ...int) api.MouldBook {
	b := api.MouldBook{Shops: shops, Moulds: moulds}
	for pair := range slices.Chunk(wants, 2) {
		b.Wants = append(b.Wants, api.MouldWant{Shop: pair[0], Mould: pair[1]})
	}
	return b
}

// chapterB and chapterC are the books B and C of the chapter's examples.
func chapterB() api.MouldBook { return book(3, 3, 0, 0, 0, 1, 1, 0, 1, 1, 2, 1) }
func chapterC() api.MouldBook { return book(3, 2, 0, 0, 1, 0, 2, 1, 2, 1) }

// fullBook has as many shops, moulds and wants as there can be.
func fullBook() api.MouldBook {
	return book(6, 6, 0, 0, 1, 1, 2, 2, 3, 3, 4, 4, 5, 5, 0, 1, 1, 2, 2, 3, 3, 4, 4, 5, 5, 0, 0, 0, 3, 3)
}

// deepBook is a book with days for which the search has to go back very often.
func deepBook() api.MouldBook {
	return book(6, 5, 1, 4, 5, 1, 5, 1, 5, 1, 0, 3, 2, 0, 3, 2, 3, 2, 2, 0, 4, 4, 4, 4, 4, 4, 4, 4, 4, 1)
}

// dice makes numbers that look as if by chance, but are the same in each run.
type dice uint64

func (d *dice) upTo(most int) int {
	*d = *d*6364136223846793005 + 1442695040888963407
	return int(uint64(*d)>>33) % (most + 1)
}

// book returns one with up to so many shops, moulds and wants.
func (d *dice) book(shops, moulds, wants int) api.MouldBook {
	b := api.MouldBook{Shops: 1 + d.upTo(shops-1), Moulds: 1 + d.upTo(moulds-1)}
	for range d.upTo(wants) {
		b.Wants = append(b.Wants, api.MouldWant{Shop: d.upTo(b.Shops - 1), Mould: d.upTo(b.Moulds - 1)})
	}
	return b
}

// days returns right days of a book; often they are more than the fewest.
func (d *dice) days(b api.MouldBook) []int {
	days := make([]int, len(b.Wants))
	for i := range days {
		days[i] = d.upTo(api.MaxMouldWants - 1)
		for !fits(b, days[:i+1]) {
			days[i] = (days[i] + 1) % api.MaxMouldWants
		}
	}
	return days
}

// some returns a strictly increasing list of indexes below n.
func (d *dice) some(n int) []int {
	var list []int
	for i := range n {
		if d.upTo(1) == 0 {
			list = append(list, i)
		}
	}
	return list
}

// ask calls a check with many books, with few and with many clashes.
func ask(t *testing.T, check func(t *testing.T, d *dice, b api.MouldBook)) {
	t.Helper()
	d := dice(1)
	for i := range 600 {
		most := []int{2, 4, 6}[i%3]
		check(t, &d, d.book(most, api.MaxMouldMoulds, api.MaxMouldWants))
		if t.Failed() {
			t.Fatalf("book %d", i)
		}
	}
}

// clash tells by the definition whether two wants clash.
func clash(b api.MouldBook, i, j int) bool {
	return b.Wants[i].Shop == b.Wants[j].Shop || b.Wants[i].Mould == b.Wants[j].Mould
}

// fits tells whether the last one of some days is right beside those before it.
func fits(b api.MouldBook, days []int) bool {
	last := len(days) - 1
	for i, day := range days[:last] {
		if day == days[last] && clash(b, i, last) {
			return false
		}
	}
	return true
}

func greatestLoad(b api.MouldBook) int {
	many := map[[2]int]int{}
	most := 0
	for _, w := range b.Wants {
		many[[2]int{0, w.Shop}]++
		many[[2]int{1, w.Mould}]++
		most = max(most, many[[2]int{0, w.Shop}], many[[2]int{1, w.Mould}])
	}
	return most
}

func different(days []int) int {
	return len(slices.Compact(slices.Sorted(slices.Values(days))))
}

// sets returns all strictly increasing lists of indexes below n.
func sets(n int) [][]int {
	var all [][]int
	for mask := range 1 << n {
		var list []int
		for i := range n {
			if mask>>i&1 == 1 {
				list = append(list, i)
			}
		}
		all = append(all, list)
	}
	return all
}

// isList tells by the definition whether wants are a day's list.
func isList(b api.MouldBook, wants []int) bool {
	for k, i := range wants {
		for _, j := range wants[:k] {
			if clash(b, i, j) {
				return false
			}
		}
	}
	return true
}

// isCover tells by the definition whether shops and moulds are a cover.
func isCover(b api.MouldBook, shops, moulds []int) bool {
	for _, w := range b.Wants {
		if !slices.Contains(shops, w.Shop) && !slices.Contains(moulds, w.Mould) {
			return false
		}
	}
	return true
}

// wantedBy returns which moulds some of the shops want.
func wantedBy(b api.MouldBook, shops []int) map[int]bool {
	moulds := map[int]bool{}
	for _, w := range b.Wants {
		if slices.Contains(shops, w.Shop) {
			moulds[w.Mould] = true
		}
	}
	return moulds
}

// withWants returns the shops that have wants.
func withWants(b api.MouldBook) []int {
	var shops []int
	for shop := range b.Shops {
		if len(wantedBy(b, list(shop))) > 0 {
			shops = append(shops, shop)
		}
	}
	return shops
}

// turned returns the book with shops and moulds exchanged.
func turned(b api.MouldBook) api.MouldBook {
	other := api.MouldBook{Shops: b.Moulds, Moulds: b.Shops}
	for _, w := range b.Wants {
		other.Wants = append(other.Wants, api.MouldWant{Shop: w.Mould, Mould: w.Shop})
	}
	return other
}

func mustDays(t *testing.T, b api.MouldBook) []int {
	t.Helper()
	days, e := mould.Days(b)
	if e != api.OK {
		t.Fatal(b, e)
	}
	return days
}

func mustList(t *testing.T, b api.MouldBook) []int {
	t.Helper()
	wants, e := mould.List(b)
	if e != api.OK {
		t.Fatal(b, e)
	}
	return wants
}

func mustFewest(t *testing.T, b api.MouldBook) int {
	t.Helper()
	fewest, e := mould.Fewest(b)
	if e != api.OK {
		t.Fatal(b, e)
	}
	return fewest
}
