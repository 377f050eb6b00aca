package stone_test

import (
	"slices"
	"testing"

	"porringer/api"
	"porringer/stone"
)

// The tests of this file are those of the properties P10.8 to P10.15, and so of P2: each asks many sets. Before them stand tests
// that hold results against what the definitions give, by other ways than the program's.

// P10.1: of lists of kinds, of which some are no set.
func TestCheckSetByDefinition(t *testing.T) {
	many := map[api.Errno]int{}
	d := dice(1)
	for range 20000 {
		asked := d.set(300)
		if d.upTo(3) > 0 {
			for range d.upTo(3) {
				asked = append(asked, api.StoneKind{Weight: int64(d.upTo(301)), Many: int64(d.upTo(4))})
			}
		}
		e := api.OK
		switch {
		case len(asked) > 8:
			e = api.ErrMany
		case slices.ContainsFunc(asked, func(k api.StoneKind) bool { return k.Weight < 1 || k.Weight > 300 || k.Many < 1 || k.Many > 300 }):
			e = api.ErrRange
		case !rises(asked):
			e = api.ErrRule
		case sumOf(asked) > 300:
			e = api.ErrOver
		}
		many[e]++
		if f := stone.CheckSet(asked); f != e {
			t.Error(asked, f, e)
		}
	}
	if len(many) != 5 || slices.Min([]int{many[api.OK], many[api.ErrMany], many[api.ErrRange], many[api.ErrRule], many[api.ErrOver]}) < 500 {
		t.Error("too few of one kind:", many)
	}
}

// rises tells whether the weights of kinds are strictly increasing.
func rises(kinds []api.StoneKind) bool {
	for i := 1; i < len(kinds); i++ {
		if kinds[i].Weight <= kinds[i-1].Weight {
			return false
		}
	}
	return true
}

// P10.1: of a lay with one other number.
func TestCheckLayByDefinition(t *testing.T) {
	many := map[api.Errno]int{}
	ask(t, 5000, 300, func(t *testing.T, d *dice, set []api.StoneKind, pans int) {
		lay := d.lay(set, pans)
		kind := d.upTo(len(set) - 1)
		most := int(set[kind].Many)
		lay[kind] = int64(d.upTo(2*most+4) - most - 2)
		amount, uses := weighsOf(set, lay)
		e := api.OK
		if lay[kind] < leastOf(set[kind], pans) || lay[kind] > set[kind].Many {
			amount, uses, e = 0, 0, api.ErrRange
		}
		many[e]++
		if a, u, f := stone.CheckLay(set, pans, lay); a != amount || u != uses || f != e {
			t.Error(lay, a, u, f)
		}
	})
	if min(many[api.OK], many[api.ErrRange]) < 1000 {
		t.Error("too few of one kind:", many)
	}
}

// P10.2
func TestWeighsByDefinition(t *testing.T) {
	gaps := 0
	askAll(t, 1000, 300, func(t *testing.T, _ *dice, set []api.StoneKind, pans int) {
		var want []int64
		ways, sum := waysOf(set, pans), sumOf(set)
		for amount := range sum {
			if ways[middle+amount+1] > 0 {
				want = append(want, amount+1)
			}
		}
		upto := int64(0)
		for slices.Contains(want, upto+1) {
			upto++
		}
		gap, e := upto+1, api.OK
		if upto == sum {
			gap, e = 0, api.ErrNone
		} else {
			gaps++
		}
		if amounts := mustWeighs(t, set, pans); !slices.Equal(amounts, want) {
			t.Error("Weighs", amounts, want)
		}
		if got := mustUpto(t, set, pans); got != upto {
			t.Error("Upto", got, upto)
		}
		if got, f := stone.Gap(set, pans); got != gap || f != e {
			t.Error("Gap", got, f, gap, e)
		}
	})
	if gaps < 500 {
		t.Error("too few have gaps:", gaps)
	}
}

// P10.3, P10.4: of small sets, whose lays can all be looked at.
func TestLaysByDefinition(t *testing.T) {
	d := dice(2)
	check := func(set []api.StoneKind, pans int) {
		t.Helper()
		lays := map[int64][][]int64{}
		for _, lay := range laysOf(set, pans) {
			amount, _ := weighsOf(set, lay)
			lays[amount] = append(lays[amount], lay)
		}
		for amount := range sumOf(set) + 3 {
			checkLays(t, set, pans, amount, lays[amount])
		}
	}
	for _, set := range setsUpTo(9) {
		check(set, 1)
		check(set, 2)
	}
	for asked := 0; asked < 150; {
		set, pans := d.set(60), 1+asked%2
		if productOf(factorsOf(set, pans)) < 5000 {
			asked++
			check(set, pans)
		}
	}
}

// checkLays checks Ways, Fewest and Lay against all lays of an amount, in lexicographic order.
func checkLays(t *testing.T, set []api.StoneKind, pans int, amount int64, lays [][]int64) {
	t.Helper()
	if ways := mustWays(t, set, pans, amount); ways != int64(len(lays)) {
		t.Error("Ways", set, pans, amount, ways, lays)
	}
	var best []int64
	fewest, e := int64(0), api.ErrStone
	for _, lay := range lays {
		if _, uses := weighsOf(set, lay); e != api.OK || uses < fewest {
			best, fewest, e = lay, uses, api.OK
		}
	}
	if lay, f := stone.Lay(set, pans, amount); !slices.Equal(lay, best) || f != e {
		t.Error("Lay", set, pans, amount, lay, f, best)
	}
	if uses, f := stone.Fewest(set, pans, amount); uses != fewest || f != e {
		t.Error("Fewest", set, pans, amount, uses, f, fewest)
	}
}

// P10.3, P10.4: of all sets, by tables from the last kind on.
func TestLaysByTables(t *testing.T) {
	many := map[api.Errno]int{}
	ask(t, 600, 300, func(t *testing.T, d *dice, set []api.StoneKind, pans int) {
		ways, fewest := waysOf(set, pans), fewestOf(set, pans)
		for _, amount := range list(0, d.number(sumOf(set)), d.number(sumOf(set)), d.number(300), sumOf(set), 300) {
			if got := mustWays(t, set, pans, amount); got != ways[middle+amount] {
				t.Error("Ways", amount, got, ways[middle+amount])
			}
			lay, e := stone.Lay(set, pans, amount)
			uses, f := stone.Fewest(set, pans, amount)
			many[e]++
			switch {
			case ways[middle+amount] == 0:
				if e != api.ErrStone || f != api.ErrStone || lay != nil || uses != 0 {
					t.Error(amount, lay, uses, e, f)
				}
			case e != api.OK || f != api.OK || uses != fewest[0][middle+amount]:
				t.Error("Fewest", amount, uses, fewest[0][middle+amount], e, f)
			case !slices.Equal(lay, bestOf(set, pans, fewest, amount)):
				t.Error("Lay", amount, lay, bestOf(set, pans, fewest, amount))
			}
		}
	})
	if min(many[api.OK], many[api.ErrStone]) < 500 {
		t.Error("too few of one kind:", many)
	}
}

// P10.5
func TestPerfectByDefinition(t *testing.T) {
	many := map[api.Errno]int{}
	askAll(t, 1500, 300, func(t *testing.T, _ *dice, set []api.StoneKind, pans int) {
		amount, factors, e := sumOf(set), factorsOf(set, pans), api.OK
		if flaw := flawOf(set, pans); flaw >= 0 {
			amount, factors, e = flaw, nil, api.ErrStone
		}
		many[e]++
		if got, f := stone.CheckPerfect(set, pans); got != amount || f != e {
			t.Error("CheckPerfect", got, f, amount, e)
		}
		if got, f := stone.Factors(set, pans); !slices.Equal(got, factors) || f != e {
			t.Error("Factors", got, f, factors, e)
		}
	})
	if min(many[api.OK], many[api.ErrStone]) < 200 {
		t.Error("too few of one kind:", many)
	}
}

// P10.6: of all sets whose sums are small.
func TestAllByDefinition(t *testing.T) {
	want := map[[2]int64][][]api.StoneKind{}
	for _, set := range setsUpTo(14) {
		for pans := range 2 {
			if flawOf(set, pans+1) < 0 {
				key := [2]int64{int64(pans + 1), sumOf(set)}
				want[key] = append(want[key], set)
			}
		}
	}
	for key, all := range want {
		pans, amount := int(key[0]), key[1]
		slices.SortFunc(all, func(one, other []api.StoneKind) int {
			return slices.Compare(factorsOf(one, pans), factorsOf(other, pans))
		})
		if got := mustAll(t, pans, amount); !equalSets(got, all) {
			t.Error(pans, amount, got, all)
		}
	}
	if len(want) != 28 {
		t.Error(len(want))
	}
}

// P10.8
func TestProved(t *testing.T) {
	askAll(t, 100, 60, func(t *testing.T, d *dice, set []api.StoneKind, pans int) {
		for range 5 {
			lay := d.lay(set, pans)
			amount, uses := mustCheckLay(t, set, pans, lay)
			if amount >= 0 && mustFewest(t, set, pans, amount) > uses {
				t.Error("better:", lay)
			}
		}
		weighs := mustWeighs(t, set, pans)
		for amount := range sumOf(set) + 2 {
			lay, e := stone.Lay(set, pans, amount)
			found := mustWays(t, set, pans, amount) > 0
			if (e == api.OK) != found || amount > 0 && slices.Contains(weighs, amount) != found {
				t.Error(amount, e, found)
			}
			if !found {
				continue
			}
			fewest := mustFewest(t, set, pans, amount)
			if a, uses := mustCheckLay(t, set, pans, lay); a != amount || uses != fewest {
				t.Error(amount, lay, a, uses, fewest)
			}
			if mustWays(t, set, 2, amount) < mustWays(t, set, pans, amount) || mustFewest(t, set, 2, amount) > fewest {
				t.Error("worse with both pans:", amount)
			}
		}
	})
}

// P10.9
func TestSummed(t *testing.T) {
	ask(t, 100, 300, func(t *testing.T, _ *dice, set []api.StoneKind, pans int) {
		all := mustWays(t, set, pans, 0)
		for amount := range sumOf(set) {
			all += int64(pans) * mustWays(t, set, pans, amount+1)
		}
		if product := productOf(factorsOf(set, pans)); all != product {
			t.Error(all, product)
		}
	})
	// So many lays are more than 32 bits can tell.
	great := set(1, 37, 2, 18, 3, 12, 4, 9, 5, 7, 6, 6, 7, 5, 8, 4)
	all := mustWays(t, great, 2, 0)
	for amount := range sumOf(great) {
		all += 2 * mustWays(t, great, 2, amount+1)
	}
	if product := productOf(factorsOf(great, 2)); all != product || mustWays(t, great, 2, 0) < 1<<26 {
		t.Error(all, product, mustWays(t, great, 2, 0))
	}
}

// follows tells whether the least weight of a set is 1, and each next one the one before it, multiplied by its factor.
func follows(set []api.StoneKind, pans int) bool {
	return slices.Equal(set, perfectOf(pans, factorsOf(set, pans)))
}

// P10.10
func TestPerfect(t *testing.T) {
	check := func(set []api.StoneKind, pans int) {
		t.Helper()
		amount, e := stone.CheckPerfect(set, pans)
		if want := follows(set, pans); (e == api.OK) != want {
			t.Error(set, pans, amount, e, want)
		}
		if e == api.OK && (amount != sumOf(set) || productOf(mustFactors(t, set, pans)) != int64(pans)*amount+1) {
			t.Error(set, pans, amount)
		}
	}
	askAll(t, 500, 300, func(t *testing.T, _ *dice, set []api.StoneKind, pans int) { check(set, pans) })
	perfect := 0
	for pans := 1; pans <= 2; pans++ {
		for sum := int64(5); sum <= api.MaxStoneSum; sum += 7 {
			for _, factors := range factoringsOf(int64(pans)*sum + 1) {
				perfect++
				check(perfectOf(pans, factors), pans)
			}
		}
	}
	if perfect < 100 {
		t.Error("too few are perfect:", perfect)
	}
}

// P10.11
func TestCounted(t *testing.T) {
	for pans := 1; pans <= 2; pans++ {
		for amount := int64(1); amount <= api.MaxStoneAll; amount++ {
			all, want := mustAll(t, pans, amount), factoringsOf(int64(pans)*amount+1)
			if count, e := stone.Count(pans, amount); count != int64(len(want)) || e != api.OK || len(all) != len(want) {
				t.Error(pans, amount, count, e, len(all), len(want))
			}
			var before []int64
			for i, set := range all {
				if sum, e := stone.CheckPerfect(set, pans); sum != amount || e != api.OK {
					t.Error(pans, amount, set, sum, e)
				}
				factors := mustFactors(t, set, pans)
				if slices.Compare(before, factors) >= 0 || !slices.Equal(factors, want[i]) {
					t.Error(pans, amount, set, factors, want[i])
				}
				before = factors
			}
		}
	}
}

// P10.12
func TestFew(t *testing.T) {
	for pans := 1; pans <= 2; pans++ {
		before := int64(1)
		for amount := int64(1); amount <= api.MaxStoneEnough; amount++ {
			few, enough := mustFew(t, pans, amount), mustEnough(t, pans, amount)
			var weights int64
			for _, k := range enough {
				weights += k.Many
			}
			if few < before || weights != few || mustUpto(t, enough, pans) < amount {
				t.Error(pans, amount, few, enough)
			}
			// One weight fewer weighs no more amounts than the powers without the last one, each of which it weighs.
			if sumOf(enough[:few-1]) >= amount {
				t.Error(pans, amount, few)
			}
			before = few
		}
		for _, weights := range weightsUpTo(3) {
			if amount := uptoOf(weights, pans); amount > 0 && mustFew(t, pans, amount) > int64(len(weights)) {
				t.Error(weights, "are enough for", amount)
			}
		}
	}
	ask(t, 500, 300, func(t *testing.T, _ *dice, set []api.StoneKind, pans int) {
		power := 1.0
		for _, k := range set {
			for range k.Many {
				power *= float64(pans + 1)
			}
		}
		if amounts := mustWeighs(t, set, pans); float64(len(amounts)) >= power {
			t.Error(len(amounts), power)
		}
	})
}

// weightsUpTo returns all increasing lists of up to so many weights, each at most 45.
func weightsUpTo(many int) [][]int64 {
	all := [][]int64{nil}
	for i := 0; i < len(all); i++ {
		least := int64(1)
		if len(all[i]) > 0 {
			least = all[i][len(all[i])-1]
		}
		for weight := least; weight <= 45 && len(all[i]) < many; weight++ {
			all = append(all, append(slices.Clone(all[i]), weight))
		}
	}
	return all
}

// uptoOf returns up to what amount weights weigh everything.
func uptoOf(weights []int64, pans int) int64 {
	sums := map[int64]bool{0: true}
	for _, weight := range weights {
		more := map[int64]bool{}
		for sum := range sums {
			for number := leastOf(api.StoneKind{Many: 1}, pans); number <= 1; number++ {
				more[sum+number*weight] = true
			}
		}
		sums = more
	}
	upto := int64(0)
	for sums[upto+1] {
		upto++
	}
	return upto
}

// P10.13
func TestTimes(t *testing.T) {
	askAll(t, 150, 100, func(t *testing.T, d *dice, set []api.StoneKind, pans int) {
		times := 1 + d.number(min(300/sumOf(set), 10)-1)
		great := slices.Clone(set)
		for i := range great {
			great[i].Weight *= times
		}
		for amount := int64(0); amount <= min(times*sumOf(set)+times, 300); amount++ {
			want := int64(0)
			if amount%times == 0 {
				want = mustWays(t, set, pans, amount/times)
			}
			if ways := mustWays(t, great, pans, amount); ways != want {
				t.Error(times, amount, ways, want)
			}
		}
		var want []int64
		for _, amount := range mustWeighs(t, set, pans) {
			want = append(want, amount*times)
		}
		if amounts := mustWeighs(t, great, pans); !slices.Equal(amounts, want) {
			t.Error(times, amounts, want)
		}
	})
}

// P10.14
func TestMore(t *testing.T) {
	askAll(t, 100, 60, func(t *testing.T, d *dice, set []api.StoneKind, pans int) {
		more := slices.Clone(set)
		more[d.upTo(len(set)-1)].Many++
		if mustUpto(t, more, pans) < mustUpto(t, set, pans) {
			t.Error("Upto", more)
		}
		weighs := mustWeighs(t, more, pans)
		for _, amount := range append(mustWeighs(t, set, pans), 0) {
			switch {
			case amount > 0 && !slices.Contains(weighs, amount):
				t.Error("Weighs", more, amount)
			case mustWays(t, more, pans, amount) < mustWays(t, set, pans, amount):
				t.Error("Ways", more, amount)
			case mustFewest(t, more, pans, amount) > mustFewest(t, set, pans, amount):
				t.Error("Fewest", more, amount)
			}
		}
	})
}

// P10.15
func TestJoined(t *testing.T) {
	joined := 0
	d := dice(3)
	for i := range 2000 {
		pans := 1 + i%2
		one, other := d.perfect(pans, d.number(30)), d.perfect(pans, d.number(30))
		times := int64(pans)*sumOf(one) + 1
		both := slices.Clone(one)
		for _, k := range other {
			both = append(both, api.StoneKind{Weight: k.Weight * times, Many: k.Many})
		}
		if len(both) > api.MaxStoneKinds || sumOf(both) > api.MaxStoneSum {
			continue
		}
		joined++
		if sum, e := stone.CheckPerfect(both, pans); sum != sumOf(both) || e != api.OK {
			t.Error(one, other, sum, e)
		}
		if !slices.Equal(mustFactors(t, both, pans), slices.Concat(mustFactors(t, one, pans), mustFactors(t, other, pans))) {
			t.Error(one, other)
		}
	}
	if joined < 500 {
		t.Error("too few are joined:", joined)
	}
}
