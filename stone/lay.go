package stone

import (
	"cmp"
	"iter"
	"slices"

	"porringer/kit"
)

// has reports whether the numbers of a lay, one for each kind, are as the pans and the set allow.
func (s scale) has(lay []int64) bool {
	for kind, number := range lay {
		most := s.many[kind]
		if !kit.Within(s.lowest(most), most, number) {
			return false
		}
	}
	return true
}

// amount returns what a lay weighs.
func (s set) amount(lay []int64) int64 {
	var amount int64
	for kind, number := range lay {
		amount += s.weights[kind] * number
	}
	return amount
}

// uses returns how many weights a lay uses.
func uses(lay []int64) int64 {
	var uses int64
	for _, number := range lay {
		uses += max(number, -number)
	}
	return uses
}

// tray is a scale on which all kinds before one are laid: the best lay of them for each amount that they weigh. Best lays of
// more kinds begin with these, since with another beginning they could be better.
type tray struct {
	scale
	kind  int
	begun map[int64][]int64
}

// newTray returns the tray on which all kinds but the last one are laid.
func newTray(s scale) tray {
	t := tray{scale: s, begun: map[int64][]int64{0: nil}}
	for t.kind < len(s.weights)-1 {
		t = t.next()
	}
	return t
}

// next returns the tray on which one kind more is laid.
func (t tray) next() tray {
	begun := map[int64][]int64{}
	for amount := range t.span(t.sum) {
		if best, found := t.best(amount); found {
			begun[amount] = best
		}
	}
	return tray{t.scale, t.kind + 1, begun}
}

// lays yields for an amount, with each number of weights of the kind with which there is a lay, the best one. Each has memory
// of its own.
func (t tray) lays(amount int64) iter.Seq[[]int64] {
	return func(yield func([]int64) bool) {
		for number := range t.span(t.many[t.kind]) {
			begun, found := t.begun[amount-number*t.weights[t.kind]]
			if found && !yield(append(begun[:t.kind:t.kind], number)) {
				return
			}
		}
	}
}

// best returns the best lay for an amount, with the kind, and false if there is none.
func (t tray) best(amount int64) ([]int64, bool) {
	return kit.Best(t.lays(amount), func(one, other []int64) bool {
		return cmp.Or(cmp.Compare(uses(one), uses(other)), slices.Compare(one, other)) < 0
	})
}

// weighed returns all amounts from 1 to the sum that some lay weighs.
func (t tray) weighed() []int64 {
	var weighed []int64
	for amount := range between(1, t.sum) {
		if _, found := t.best(amount); found {
			weighed = append(weighed, amount)
		}
	}
	return weighed
}

// gap returns the least amount from 1 to the sum that no lay weighs, and false if there is none.
func (t tray) gap() (int64, bool) {
search:
	for amount := range between(1, t.sum) {
		for range t.lays(amount) {
			continue search
		}
		return amount, true
	}
	return 0, false
}
