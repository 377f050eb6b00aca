package mould_test

import (
	"slices"
	"testing"

	"porringer/api"
	"porringer/mould"
)

// The tests of this file are those of the properties P2.8 to P2.15, and so of P2: each asks many books. Before them stand
// tests that hold results against those of searches through all that the definitions allow.

// allDays calls a function with all right days of a book in which no number is above most, in lexicographic order, until
// it returns true.
func allDays(b api.MouldBook, most int, found func(days []int) bool) bool {
	days := make([]int, 0, len(b.Wants))
	var next func() bool
	next = func() bool {
		if len(days) == len(b.Wants) {
			return found(days)
		}
		for day := range most + 1 {
			days = append(days, day)
			if fits(b, days) && next() {
				return true
			}
			days = days[:len(days)-1]
		}
		return false
	}
	return next()
}

// P2.3, with all numbers that could be of use, and no thought of loads
func TestDaysByAll(t *testing.T) {
	d := dice(2)
	for i := range 400 {
		b := d.book(3, 3, 6)
		fewest := len(b.Wants)
		var first []int
		allDays(b, len(b.Wants), func(days []int) bool {
			if many := different(days); many < fewest || first == nil {
				fewest, first = many, slices.Clone(days)
			}
			return false
		})
		if got := mustDays(t, b); mustFewest(t, b) != fewest || !slices.Equal(got, first) {
			t.Fatal(i, b, got, first)
		}
	}
}

// P2.3, of large books, with the numbers of the fewest days
func TestFirstDays(t *testing.T) {
	d := dice(3)
	for i := range 400 {
		b := d.book(6, 6, 14)
		steps := 0
		allDays(b, max(greatestLoad(b), 1)-1, func(days []int) bool {
			if steps++; !slices.Equal(mustDays(t, b), days) {
				t.Fatal(i, b, days)
			}
			return true
		})
		if steps != 1 {
			t.Fatal(i, b)
		}
	}
}

// P2.2
func TestCheckDaysByAll(t *testing.T) {
	right, wrong := 0, 0
	ask(t, func(t *testing.T, d *dice, b api.MouldBook) {
		days := make([]int, len(b.Wants))
		for i := range days {
			days[i] = d.upTo(api.MaxMouldWants - 1)
		}
		isRight := true
		for i := range days {
			isRight = isRight && fits(b, days[:i+1])
		}
		many, e := mould.CheckDays(b, days)
		switch {
		case isRight && e == api.OK && many == different(days):
			right++
		case !isRight && e == api.ErrMould && many == 0:
			wrong++
		default:
			t.Error(b, days, many, e)
		}
	})
	if right < 100 || wrong < 100 {
		t.Error("too few of one kind:", right, wrong)
	}
}

// P2.4: a chain is the least set with the want in it that no clash leaves.
func TestChainByAll(t *testing.T) {
	ask(t, func(t *testing.T, d *dice, b api.MouldBook) {
		days := d.days(b)
		for want := range b.Wants {
			day := d.upTo(api.MaxMouldWants - 1)
			if day == days[want] {
				continue
			}
			in := make([]bool, len(days))
			in[want] = true
			for range days {
				for i := range days {
					for j := range days {
						in[j] = in[j] || in[i] && clash(b, i, j) && (days[j] == days[want] || days[j] == day)
					}
				}
			}
			swapped := slices.Clone(days)
			var chain []int
			for i := range days {
				if in[i] {
					chain = append(chain, i)
					swapped[i] = day
					if days[i] == day {
						swapped[i] = days[want]
					}
				}
			}
			if got, e := mould.Chain(b, days, want, day); !slices.Equal(got, chain) || e != api.OK {
				t.Error(b, days, want, day, got, e)
			}
			if got, e := mould.Swap(b, days, want, day); !slices.Equal(got, swapped) || e != api.OK {
				t.Error(b, days, want, day, got, e)
			}
		}
	})
}

// P2.5 to P2.7, P2.10, P2.11
func TestListsCoversAndShortByAll(t *testing.T) {
	d := dice(4)
	served, short := 0, 0
	for range 120 {
		b := d.book(4, 4, 9)
		best := 0
		var first []int
		all := false
		for _, wants := range sets(len(b.Wants)) {
			isOne := isList(b, wants)
			if e := mould.CheckList(b, wants); isOne != (e == api.OK) || !isOne && e != api.ErrMould {
				t.Error(b, wants, e)
			}
			if isOne && (len(wants) > best || len(wants) == best && slices.Compare(wants, first) < 0) {
				best, first = len(wants), wants
			}
			all = all || isOne && len(wants) == len(withWants(b))
		}
		if got := mustList(t, b); !slices.Equal(got, first) {
			t.Error(b, got, first)
		}
		checkCovers(t, b, best)
		checkShort(t, b, all)
		if all {
			served++
		} else {
			short++
		}
	}
	if served < 20 || short < 20 {
		t.Error("too few of one kind:", served, short)
	}
}

// checkCovers checks all covers of a book whose best lists have so many wants.
func checkCovers(t *testing.T, b api.MouldBook, best int) {
	t.Helper()
	fewest := b.Shops + b.Moulds
	for _, shops := range sets(b.Shops) {
		for _, moulds := range sets(b.Moulds) {
			many, e := mould.CheckCover(b, shops, moulds)
			if !isCover(b, shops, moulds) {
				if many != 0 || e != api.ErrSum {
					t.Error(b, shops, moulds, many, e)
				}
				continue
			}
			if many != len(shops)+len(moulds) || many < best || e != api.OK {
				t.Error(b, shops, moulds, many, e)
			}
			fewest = min(fewest, many)
		}
	}
	shops, moulds, e := mould.Cover(b)
	if many, _ := mould.CheckCover(b, shops, moulds); many != best || fewest != best || !isCover(b, shops, moulds) || e != api.OK {
		t.Error(b, best, fewest, shops, moulds, e)
	}
}

// checkShort checks all lists of shops; served tells whether all shops can be.
func checkShort(t *testing.T, b api.MouldBook, served bool) {
	t.Helper()
	with := withWants(b)
	some := false
	for _, shops := range sets(b.Shops)[1:] {
		few := len(shops) - len(wantedBy(b, shops))
		want := api.OK
		if slices.ContainsFunc(shops, func(shop int) bool { return !slices.Contains(with, shop) }) {
			want = api.ErrRule
		} else if few <= 0 {
			want = api.ErrSum
		}
		if want != api.OK {
			few = 0
		}
		some = some || want == api.OK
		if got, e := mould.CheckShort(b, shops); got != few || e != want {
			t.Error(b, shops, got, e)
		}
	}
	shops, e := mould.Short(b)
	if _, bad := mould.CheckShort(b, shops); served == some || some != (e == api.OK) || some != (bad == api.OK) || !some && e != api.ErrNone {
		t.Error(b, served, some, shops, e)
	}
}

// P2.8
func TestProved(t *testing.T) {
	ask(t, func(t *testing.T, d *dice, b api.MouldBook) {
		most := greatestLoad(b)
		days := mustDays(t, b)
		if many, e := mould.CheckDays(b, days); mustFewest(t, b) != most || many != most || e != api.OK {
			t.Error(b, days, many, e)
		}
		days = d.days(b)
		if many, e := mould.CheckDays(b, days); many < most || e != api.OK {
			t.Error(b, days, many, e)
		}
	})
	for shops := range api.MaxMouldShops {
		if fewest := mustFewest(t, book(shops+1, 6-shops)); fewest != 0 {
			t.Error(shops, fewest)
		}
	}
}

// P2.9
func TestSwapped(t *testing.T) {
	ask(t, func(t *testing.T, d *dice, b api.MouldBook) {
		days := d.days(b)
		for want := range b.Wants {
			for day := range api.MaxMouldWants {
				chain, e := mould.Chain(b, days, want, day)
				swapped, bad := mould.Swap(b, days, want, day)
				if e != bad || (e == api.ErrRule) != (day == days[want]) {
					t.Error(b, days, want, day, e, bad)
				}
				if e != api.OK {
					continue
				}
				if _, e := mould.CheckDays(b, swapped); e != api.OK {
					t.Error(b, days, want, day, swapped, e)
				}
				for _, w := range chain {
					other := days[want] + day - days[w]
					if same, e := mould.Chain(b, days, w, other); !slices.Equal(same, chain) || e != api.OK {
						t.Error(b, days, want, day, w, same, e)
					}
					if again, e := mould.Swap(b, swapped, w, days[w]); !slices.Equal(again, days) || e != api.OK {
						t.Error(b, days, want, day, w, again, e)
					}
				}
			}
		}
	})
}

// P2.10
func TestEither(t *testing.T) {
	ask(t, func(t *testing.T, d *dice, b api.MouldBook) {
		best := mustList(t, b)
		shops, moulds, e := mould.Cover(b)
		if many, bad := mould.CheckCover(b, shops, moulds); many != len(best) || e != api.OK || bad != api.OK {
			t.Error(b, best, shops, moulds, e, bad)
		}
		if many, e := mould.CheckCover(b, d.some(b.Shops), d.some(b.Moulds)); e == api.OK && many < len(best) {
			t.Error(b, best, many)
		}
		wants := d.some(len(b.Wants))
		if e := mould.CheckList(b, wants); e == api.OK && len(wants) > len(best) || e == api.OK && !isList(b, wants) {
			t.Error(b, best, wants)
		}
	})
}

// P2.11
func TestServed(t *testing.T) {
	ask(t, func(t *testing.T, d *dice, b api.MouldBook) {
		served := len(mustList(t, b)) == len(withWants(b))
		shops, e := mould.Short(b)
		if served != (e == api.ErrNone) {
			t.Error(b, shops, e)
		}
		if few, bad := mould.CheckShort(b, shops); !served && (few != len(shops)-len(wantedBy(b, shops)) || bad != api.OK || e != api.OK) {
			t.Error(b, shops, few, bad, e)
		}
		if _, e := mould.CheckShort(b, d.some(b.Shops)); served && e == api.OK {
			t.Error(b)
		}
	})
}

// onDay returns the wants that have a day.
func onDay(days []int, day int) []int {
	var wants []int
	for want, its := range days {
		if its == day {
			wants = append(wants, want)
		}
	}
	return wants
}

// P2.12
func TestFullDays(t *testing.T) {
	ask(t, func(t *testing.T, d *dice, b api.MouldBook) {
		for _, days := range [][]int{mustDays(t, b), d.days(b)} {
			for day := range api.MaxMouldWants {
				if e := mould.CheckList(b, onDay(days, day)); e != api.OK {
					t.Error(b, days, day, e)
				}
			}
		}
	})
	d := dice(5)
	for range 300 {
		b := d.even()
		days := mustDays(t, b)
		for range 10 {
			checkFull(t, b, days)
			want := d.upTo(len(days) - 1)
			if swapped, e := mould.Swap(b, days, want, days[d.upTo(len(days)-1)]); e == api.OK {
				days = swapped
			}
		}
	}
}

// even returns a book in which each shop and each mould has the same load, above 0.
func (d *dice) even() api.MouldBook {
	n := 1 + d.upTo(5)
	b := book(n, n)
	for range 1 + d.upTo(14/n-1) {
		moulds := make([]int, n)
		for i := range moulds {
			j := d.upTo(i)
			moulds[i] = moulds[j]
			moulds[j] = i
		}
		for shop, m := range moulds {
			b.Wants = append(b.Wants, api.MouldWant{Shop: shop, Mould: m})
		}
	}
	return b
}

// checkFull checks that each of the fewest days has a want of each shop.
func checkFull(t *testing.T, b api.MouldBook, days []int) {
	t.Helper()
	if many, e := mould.CheckDays(b, days); many != len(b.Wants)/b.Shops || e != api.OK {
		t.Error(b, days, many, e)
	}
	for _, day := range days {
		if many := len(onDay(days, day)); many != b.Shops {
			t.Error(b, days, day, many)
		}
	}
}

// P2.13
func TestMore(t *testing.T) {
	grown := 0
	ask(t, func(t *testing.T, d *dice, b api.MouldBook) {
		if len(b.Wants) == api.MaxMouldWants {
			return
		}
		more := b
		more.Wants = append(slices.Clone(b.Wants), api.MouldWant{Shop: d.upTo(b.Shops - 1), Mould: d.upTo(b.Moulds - 1)})
		days := mustFewest(t, more) - mustFewest(t, b)
		wants := len(mustList(t, more)) - len(mustList(t, b))
		if min(days, wants) < 0 || max(days, wants) > 1 {
			t.Error(b, more, days, wants)
		}
		grown += days + wants
	})
	if grown < 100 {
		t.Error("too few that need more:", grown)
	}
}

// P2.14
func TestTurned(t *testing.T) {
	ask(t, func(t *testing.T, d *dice, b api.MouldBook) {
		other := turned(b)
		days := d.days(b)
		if d.upTo(1) == 0 && len(days) > 1 {
			days[0] = days[len(days)-1]
		}
		many, e := mould.CheckDays(b, days)
		if same, bad := mould.CheckDays(other, days); same != many || bad != e {
			t.Error(b, days, many, e, same, bad)
		}
		if one, same := mustDays(t, b), mustDays(t, other); !slices.Equal(one, same) {
			t.Error(b, one, same)
		}
		if one, same := mustList(t, b), mustList(t, other); !slices.Equal(one, same) {
			t.Error(b, one, same)
		}
		wants := d.some(len(b.Wants))
		if e := mould.CheckList(b, wants); e != mould.CheckList(other, wants) {
			t.Error(b, wants, e)
		}
		shops, moulds := d.some(b.Shops), d.some(b.Moulds)
		many, e = mould.CheckCover(b, shops, moulds)
		if same, bad := mould.CheckCover(other, moulds, shops); same != many || bad != e {
			t.Error(b, shops, moulds, many, e, same, bad)
		}
		shops, moulds, _ = mould.Cover(b)
		if many, e := mould.CheckCover(other, moulds, shops); many != len(mustList(t, other)) || e != api.OK {
			t.Error(b, shops, moulds, many, e)
		}
	})
}

// P2.15
func TestApart(t *testing.T) {
	d := dice(6)
	for range 600 {
		one, two := d.book(3, 3, 7), d.book(3, 3, 7)
		both := api.MouldBook{Shops: one.Shops + two.Shops, Moulds: one.Moulds + two.Moulds}
		both.Wants = append(both.Wants, one.Wants...)
		for _, w := range two.Wants {
			its := api.MouldWant{Shop: one.Shops + w.Shop, Mould: one.Moulds + w.Mould}
			both.Wants = slices.Insert(both.Wants, d.upTo(len(both.Wants)), its)
		}
		if fewest := mustFewest(t, both); fewest != max(mustFewest(t, one), mustFewest(t, two)) {
			t.Error(one, two, fewest)
		}
		if many, _ := mould.CheckDays(both, mustDays(t, both)); many != mustFewest(t, both) {
			t.Error(one, two, many)
		}
		if many := len(mustList(t, both)); many != len(mustList(t, one))+len(mustList(t, two)) {
			t.Error(one, two, many)
		}
	}
}
