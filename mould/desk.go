package mould

import (
	"iter"
	"slices"

	"porringer/api"
)

// firstMould is where the loads of moulds begin, behind those of shops.
const firstMould = api.MaxMouldShops

// loads is how many wants each shop has, and each mould.
type loads [firstMould + api.MaxMouldMoulds]int

// desk is a valid book, with its loads.
type desk struct {
	api.MouldBook
	load loads
}

// newDesk returns the desk of a book, or the book's error.
func newDesk(b api.MouldBook) (desk, api.Errno) {
	if e := CheckBook(b); e != api.OK {
		return desk{}, e
	}
	d := desk{MouldBook: b}
	d.load = d.loadsOf(func(api.MouldWant) bool { return true })
	return d, api.OK
}

// loadsOf returns the loads of the wants that are meant.
func (d desk) loadsOf(meant func(w api.MouldWant) bool) loads {
	var l loads
	for _, w := range d.Wants {
		if meant(w) {
			l[w.Shop]++
			l[firstMould+w.Mould]++
		}
	}
	return l
}

// handOver returns the loads of the book's shops, and those of its moulds, as lists of their own.
func (d desk) handOver(l loads) ([]int, []int) {
	shops, moulds := make([]int, d.Shops), make([]int, d.Moulds)
	copy(shops, l[:firstMould])
	copy(moulds, l[firstMould:])
	return shops, moulds
}

// fewest returns how few days are enough: the greatest load.
func (d desk) fewest() int {
	return slices.Max(d.load[:])
}

// clashes yields the other wants that clash with one, increasing.
func (d desk) clashes(want int) iter.Seq[int] {
	one := d.Wants[want]
	return func(yield func(int) bool) {
		for other, w := range d.Wants {
			if other != want && (w.Shop == one.Shop || w.Mould == one.Mould) && !yield(other) {
				return
			}
		}
	}
}

// apart reports whether a want clashes with none of a list.
func (d desk) apart(list []int, want int) bool {
	for other := range d.clashes(want) {
		if slices.Contains(list, other) {
			return false
		}
	}
	return true
}
