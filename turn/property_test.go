package turn_test

import (
	"slices"
	"testing"

	"porringer/api"
	"porringer/turn"
)

// The tests of this file are those of the properties P9.8 to P9.15, and so of P2: each asks many codes, steps or beginnings.
// Before them stand tests that hold results against what the definitions give, by other ways than the program's.

// P9.1, P9.2
func TestOrderByDefinition(t *testing.T) {
	check := func(code []int) {
		t.Helper()
		want := orderOf(code)
		if e := turn.CheckCode(len(code), code); e != api.OK {
			t.Error("CheckCode", code, e)
		}
		if order := mustOrder(t, code); !slices.Equal(order, want) {
			t.Error("Order", code, order, want)
		}
		if got := mustCode(t, want); !slices.Equal(got, code) {
			t.Error("Code", want, got, code)
		}
	}
	for shops := 1; shops <= 7; shops++ {
		for _, code := range codesOf(shops) {
			check(code)
		}
	}
	d := dice(1)
	for range 2000 {
		check(d.code(1 + d.upTo(api.MaxTurnShops-1)))
	}
}

// P9.1: of a code with one other number.
func TestCheckCodeByDefinition(t *testing.T) {
	many := map[api.Errno]int{}
	d := dice(2)
	for range 5000 {
		shops := 1 + d.upTo(api.MaxTurnShops-1)
		code := d.code(shops)
		place, number, e := d.upTo(shops-1), d.upTo(shops+1)-1, api.OK
		if number < 0 || number >= shops-place {
			e = api.ErrRange
		}
		many[e]++
		code[place] = number
		if f := turn.CheckCode(shops, code); f != e {
			t.Error(shops, code, f)
		}
		if _, f := turn.Order(shops, code); f != e {
			t.Error(shops, code, f)
		}
	}
	if min(many[api.OK], many[api.ErrRange]) < 1000 {
		t.Error("too few of one kind:", many)
	}
}

// P9.2, P9.6: of all lists of few numbers.
func TestOrdersByDefinition(t *testing.T) {
	many := map[api.Errno]int{}
	all := [][]int{nil}
	for i := 0; i < len(all); i++ {
		order := all[i]
		sorted := slices.Sorted(slices.Values(order))
		e := api.OK
		switch {
		case len(order) == 0:
			e = api.ErrMany
		case sorted[0] < 0 || sorted[len(order)-1] >= len(order):
			e = api.ErrRange
		case !slices.Equal(sorted, queue(len(order))):
			e = api.ErrRule
		}
		many[e]++
		if code, f := turn.Code(order); f != e || f == api.OK && !slices.Equal(code, codeOf(len(order), order)) {
			t.Error("Code", order, code, f)
		}
		if _, f := turn.Number(order); f != e {
			t.Error("Number", order, f)
		}
		for number := -1; number < 6 && len(order) < 5; number++ {
			all = append(all, append(slices.Clone(order), number))
		}
	}
	if many[api.OK] != 1+2+6+24+120 || min(many[api.ErrRange], many[api.ErrRule]) < 1000 {
		t.Error("too few of one kind:", many)
	}
}

// checkRound checks Round, Last and When.
func checkRound(t *testing.T, shops int, step int64, want []int) {
	t.Helper()
	if order := mustRound(t, shops, step); !slices.Equal(order, want) {
		t.Error("Round", shops, step, order, want)
	}
	if last := mustLast(t, shops, step); last != want[shops-1] {
		t.Error("Last", shops, step, last, want)
	}
	for place, shop := range want {
		if at, e := turn.When(shops, step, shop); at != place || e != api.OK {
			t.Error("When", shops, step, shop, at, e)
		}
	}
}

// P9.3
func TestRoundByDefinition(t *testing.T) {
	for shops := 1; shops <= api.MaxTurnShops; shops++ {
		for step := 1; step <= 150; step++ {
			checkRound(t, shops, int64(step), countedOf(shops, step))
		}
	}
	d := dice(3)
	for range 3000 {
		shops, step := 1+d.upTo(api.MaxTurnShops-1), d.step()
		checkRound(t, shops, step, roundOf(shops, step))
	}
}

// P9.4
func TestFindByDefinition(t *testing.T) {
	many := map[api.Errno]int{}
	askAll(t, 3000, func(t *testing.T, _ *dice, shops int, begun []int) {
		step, period, e := findOf(shops, begun), periodOf(shops, begun), api.OK
		if step == 0 {
			period, e = 0, api.ErrNone
		}
		many[e]++
		if got, p, f := turn.Find(shops, begun); got != step || p != period || f != e {
			t.Error(got, p, f, step, period)
		}
	})
	if min(many[api.OK], many[api.ErrNone]) < 1000 {
		t.Error("too few of one kind:", many)
	}
}

// checkClashes checks CheckClash of all places, and of what are none, and returns the first two places that contradict each
// other; or nothing.
func checkClashes(t *testing.T, shops int, begun []int) []int {
	t.Helper()
	var first []int
	code := codeOf(shops, begun)
	for one := -1; one <= len(begun); one++ {
		for two := -1; two <= len(begun); two++ {
			want := api.ErrSum
			switch {
			case one < 0 || one >= two || two >= len(begun):
				want = api.ErrArg
			case clashOf(shops, code, one, two):
				want = api.OK
			}
			if want == api.OK && first == nil {
				first = list(one, two)
			}
			if e := turn.CheckClash(shops, begun, one, two); e != want {
				t.Error("CheckClash", one, two, e)
			}
		}
	}
	return first
}

// P9.5
func TestClashByDefinition(t *testing.T) {
	many := map[api.Errno]int{}
	later := 0
	askAll(t, 1000, func(t *testing.T, _ *dice, shops int, begun []int) {
		one, two, e := 0, 0, api.ErrNone
		if first := checkClashes(t, shops, begun); first != nil {
			one, two, e = first[0], first[1], api.OK
		}
		many[e]++
		if one > 0 {
			later++
		}
		if first, other, f := turn.Clash(shops, begun); first != one || other != two || f != e {
			t.Error("Clash", first, other, f, one, two)
		}
	})
	if min(many[api.OK], many[api.ErrNone]) < 500 || later < 100 {
		t.Error("too few of one kind:", many, later)
	}
}

// P9.6
func TestNumberByDefinition(t *testing.T) {
	for shops := 1; shops <= 7; shops++ {
		for i, order := range ordersOf(shops) {
			if number := mustNumber(t, order); number != int64(i) {
				t.Error("Number", order, number, i)
			}
			if got := mustNumbered(t, shops, int64(i)); !slices.Equal(got, order) {
				t.Error("Numbered", i, got, order)
			}
		}
	}
	d := dice(4)
	for range 3000 {
		order := d.order(1 + d.upTo(api.MaxTurnShops-1))
		var before int64
		for place, shop := range order {
			for _, other := range order[place+1:] {
				if other < shop {
					before += productOf(len(order) - place - 1)
				}
			}
		}
		if number := mustNumber(t, order); number != before {
			t.Error("Number", order, number, before)
		}
		if got := mustNumbered(t, len(order), before); !slices.Equal(got, order) {
			t.Error("Numbered", before, got, order)
		}
	}
}

// P9.7: each shop is the last one by some step, so that Wish does not return ErrNone.
func TestWishByDefinition(t *testing.T) {
	for shops := 1; shops <= api.MaxTurnShops; shops++ {
		for shop := range shops {
			step := 1
			for order := countedOf(shops, step); order[shops-1] != shop; order = countedOf(shops, step) {
				step++
			}
			if got := mustWish(t, shops, shop); got != int64(step) {
				t.Error(shops, shop, got, step)
			}
		}
	}
}

// P9.8
func TestEither(t *testing.T) {
	askAll(t, 3000, func(t *testing.T, _ *dice, shops int, begun []int) {
		step, _, e := turn.Find(shops, begun)
		one, two, f := turn.Clash(shops, begun)
		switch {
		case e == api.OK && f == api.ErrNone:
			if !begins(mustRound(t, shops, step), begun) {
				t.Error("not made by", step)
			}
		case e == api.ErrNone && f == api.OK:
			if g := turn.CheckClash(shops, begun, one, two); g != api.OK {
				t.Error(one, two, g)
			}
		default:
			t.Error(e, f)
		}
		for two := range begun {
			for one := range two {
				if g := turn.CheckClash(shops, begun, one, two); g == api.OK && e == api.OK {
					t.Error("made by", step, "but", one, two)
				}
			}
		}
	})
}

// P9.9
func TestPeriods(t *testing.T) {
	made := 0
	askAll(t, 1000, func(t *testing.T, d *dice, shops int, begun []int) {
		least, period, e := turn.Find(shops, begun)
		if e != api.OK {
			return
		}
		made++
		if least > period {
			t.Error(least, period)
		}
		check := func(step int64) {
			if makes := begins(mustRound(t, shops, step), begun); makes != (step >= least && (step-least)%period == 0) {
				t.Error(step, makes, least, period)
			}
		}
		greatest := api.MaxTurnStep - (api.MaxTurnStep-least)%period
		for _, step := range []int64{least, least + period, least + 2*period, least + period*int64(d.upTo(1<<24)), greatest} {
			check(step)
			check(max(step-1, 1))
			check(min(step+1, api.MaxTurnStep))
		}
		for range 10 {
			check(d.step())
		}
	})
	if made < 1000 {
		t.Error("too few are made:", made)
	}
}

// P9.10
func TestCodes(t *testing.T) {
	for shops := 1; shops <= 7; shops++ {
		codes := map[[7]int]int{}
		for _, code := range codesOf(shops) {
			var key [7]int
			copy(key[:], mustOrder(t, code))
			codes[key]++
		}
		for _, order := range ordersOf(shops) {
			var key [7]int
			copy(key[:], order)
			if codes[key] != 1 {
				t.Error(order, "is that of so many codes:", codes[key])
			}
		}
		if len(codes) != int(productOf(shops)) {
			t.Error(shops, len(codes))
		}
	}
	d := dice(5)
	for range 3000 {
		shops := 1 + d.upTo(api.MaxTurnShops-1)
		many := d.upTo(shops)
		one := d.order(shops)
		other := slices.Clone(one)
		for _, place := range d.order(shops - many) {
			at := many + d.upTo(shops-many-1)
			other[many+place], other[at] = other[at], other[many+place]
		}
		if !begins(mustCode(t, other), mustCode(t, one)[:many]) {
			t.Error(one, other, many)
		}
	}
}

// P9.11
func TestLast(t *testing.T) {
	check := func(shops int, step int64) {
		t.Helper()
		last := (int64(mustLast(t, shops, step)) + step) % int64(shops+1)
		if got := mustLast(t, shops+1, step); int64(got) != last {
			t.Error(shops, step, got, last)
		}
	}
	d := dice(6)
	for shops := 1; shops < api.MaxTurnShops; shops++ {
		for step := int64(1); step <= 300; step++ {
			check(shops, step)
			check(shops, d.step())
			check(shops, api.MaxTurnStep-step+1)
		}
	}
}

// P9.12
func TestNumbers(t *testing.T) {
	for shops := 1; shops <= api.MaxTurnShops; shops++ {
		many := productOf(shops)
		before := mustNumbered(t, shops, 0)
		for number := int64(1); number < min(many, 5040); number++ {
			order := mustNumbered(t, shops, number)
			if slices.Compare(before, order) >= 0 || mustNumber(t, order) != number {
				t.Error(shops, number, before, order)
			}
			before = order
		}
		if last := mustNumbered(t, shops, many-1); mustNumber(t, last) != many-1 || slices.Compare(last, before) < 0 {
			t.Error(shops, last)
		}
		for _, number := range []int64{-1, many, many + 1} {
			if order, e := turn.Numbered(shops, number); len(order) > 0 || e != api.ErrArg {
				t.Error(shops, number, order, e)
			}
		}
	}
	d := dice(7)
	for range 3000 {
		shops := 1 + d.upTo(api.MaxTurnShops-1)
		one, other := d.order(shops), d.order(shops)
		less := mustNumber(t, one) < mustNumber(t, other)
		if less != (slices.Compare(one, other) < 0) || max(mustNumber(t, one), mustNumber(t, other)) >= productOf(shops) {
			t.Error(one, other)
		}
	}
}

// P9.13
func TestMore(t *testing.T) {
	askAll(t, 1000, func(t *testing.T, _ *dice, shops int, begun []int) {
		step, period, e := turn.Find(shops, begun)
		if e != api.OK {
			return
		}
		for many := range begun {
			least, p, e := turn.Find(shops, begun[:many])
			if e != api.OK || least > step || period%p != 0 {
				t.Error(many, least, p, e, step, period)
			}
		}
	})
}

// P9.14
func TestWished(t *testing.T) {
	for shops := 1; shops <= api.MaxTurnShops; shops++ {
		for shop := range shops {
			wish := mustWish(t, shops, shop)
			for step := int64(1); step <= wish; step++ {
				if last := mustLast(t, shops, step); (last == shop) != (step == wish) {
					t.Error(shops, shop, step, last, wish)
				}
			}
		}
		if order := mustRound(t, shops, 1); !slices.Equal(order, queue(shops)) {
			t.Error(shops, order)
		}
	}
}

// P9.15
func TestTurned(t *testing.T) {
	for shops := 1; shops <= api.MaxTurnShops; shops++ {
		_, period, e := turn.Find(shops, queue(shops))
		if e != api.OK {
			t.Fatal(shops, e)
		}
		for step := int64(1); step <= period; step++ {
			turned := mustRound(t, shops, period+1-step)
			for place, shop := range turned {
				turned[place] = shops - 1 - shop
			}
			if order := mustRound(t, shops, step); !slices.Equal(order, turned) {
				t.Fatal(shops, step, order, turned)
			}
		}
	}
}
