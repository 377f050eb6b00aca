package rod_test

import (
	"slices"
	"testing"

	"porringer/api"
	"porringer/rod"
)

// The tests of this file are those of the properties P8.9 to P8.15, and so of P2: each asks many plans. Before them stand
// tests that hold results against what the definitions give, by other ways than the program's.

// P8.1, P8.7
func TestCasesByDefinition(t *testing.T) {
	for plates := 1; plates <= api.MaxRodPlates; plates++ {
		for most := range api.MaxRodBad + 1 {
			b := book(plates, most)
			want := casesOf(b)
			if cases := mustCases(t, b); !same(cases, want) {
				t.Error(b, cases)
			}
			bound, power := 0, 1
			for power < len(want) {
				bound, power = bound+1, 2*power
			}
			if got := mustBound(t, b); got != bound {
				t.Error(b, got)
			}
		}
	}
}

// P8.2
func TestResultsByDefinition(t *testing.T) {
	many := map[api.Errno]int{}
	askAll(t, api.MaxRodPlates, 6000, func(t *testing.T, d *dice, b api.RodBook, plan [][]int) {
		for _, bad := range setsOf(b.Plates) {
			want, e := resultsOf(plan, bad), api.OK
			if len(bad) > b.Most {
				want, e = nil, api.ErrArg
			}
			many[e]++
			if results, f := rod.Results(b, plan, bad); !slices.Equal(results, want) || f != e {
				t.Error(bad, results, f)
			}
		}
	})
	if min(many[api.OK], many[api.ErrArg]) < 2000 {
		t.Error("too few of one kind:", many)
	}
}

// P8.3
func TestAlikeByDefinition(t *testing.T) {
	many := map[api.Errno]int{}
	askAll(t, api.MaxRodPlates, 6000, func(t *testing.T, _ *dice, b api.RodBook, plan [][]int) {
		var one, other []int
		e, f := api.OK, api.ErrNone
		if alike := alikeOf(b, plan); alike != nil {
			one, other, e, f = alike[0], alike[1], api.ErrRod, api.OK
		}
		many[e]++
		if got := rod.CheckTells(b, plan); got != e {
			t.Error("CheckTells", got)
		}
		if first, later, got := rod.Alike(b, plan); !slices.Equal(first, one) || !slices.Equal(later, other) || got != f {
			t.Error("Alike", first, later, got, one, other)
		}
	})
	if min(many[api.OK], many[api.ErrRod]) < 1000 {
		t.Error("too few of one kind:", many)
	}
}

// P8.4, P8.6
func TestToldByDefinition(t *testing.T) {
	many := map[api.Errno]int{}
	askAll(t, api.MaxRodPlates, 6000, func(t *testing.T, d *dice, b api.RodBook, plan [][]int) {
		for _, results := range [][]int{d.results(len(plan)), resultsOf(plan, d.bad(b))} {
			want, e := toldOf(b, plan, results), api.OK
			if len(want) == 0 {
				e = api.ErrRod
			}
			many[e]++
			if told, f := rod.Told(b, plan, results); !same(told, want) || f != e {
				t.Error("Told", results, told, f)
			}
			if suspects := mustSuspects(t, b, plan, results); !slices.Equal(suspects, suspectsOf(b, plan, results)) {
				t.Error("Suspects", results, suspects)
			}
		}
	})
	if min(many[api.OK], many[api.ErrRod]) < 1000 {
		t.Error("too few of one kind:", many)
	}
}

// P8.5
func TestCoveredByDefinition(t *testing.T) {
	many := map[api.Errno]int{}
	askAll(t, api.MaxRodPlates, 6000, func(t *testing.T, _ *dice, b api.RodBook, plan [][]int) {
		var want []int
		plate, e, f := 0, api.OK, api.ErrNone
		for _, bad := range slices.Backward(casesOf(b)) {
			if covered := coveredOf(b, plan, bad); len(covered) > 0 {
				want, plate, e, f = bad, covered[0], api.ErrRule, api.OK
			}
		}
		many[e]++
		if got := rod.CheckPlain(b, plan); got != e {
			t.Error("CheckPlain", got)
		}
		if bad, got, g := rod.Covered(b, plan); !slices.Equal(bad, want) || got != plate || g != f {
			t.Error("Covered", bad, got, g, want, plate)
		}
	})
	if min(many[api.OK], many[api.ErrRule]) < 1000 {
		t.Error("too few of one kind:", many)
	}
}

// checkHunt checks Needed and Next by the definition, and returns what Needed returned.
func checkHunt(t *testing.T, b api.RodBook, plan [][]int, results []int, a asker) (int, api.Errno) {
	t.Helper()
	left := a.left(plan, results)
	want, e, f := 0, api.OK, api.OK
	if left == 0 {
		e, f = api.ErrRod, api.ErrRod
	} else if want = a.needed(left); want == 0 {
		f = api.ErrNone
	}
	if rods, g := rod.Needed(b, plan, results); rods != want || g != e {
		t.Error("Needed", results, rods, g, want)
	}
	next, g := rod.Next(b, plan, results)
	if g != f || g != api.OK && len(next) > 0 || g == api.OK && (rod.CheckPlan(b, lists(next)) != api.OK || !a.isBest(left, next)) {
		t.Error("Next", results, next, g)
	}
	return want, e
}

// P8.8
func TestNeededByDefinition(t *testing.T) {
	many := map[int]int{}
	askers := map[api.RodBook]asker{}
	askAll(t, api.MaxRodNeeded, 2000, func(t *testing.T, d *dice, b api.RodBook, plan [][]int) {
		if _, found := askers[b]; !found {
			askers[b] = newAsker(b)
		}
		for _, results := range [][]int{d.results(len(plan)), resultsOf(plan, d.bad(b))} {
			rods, e := checkHunt(t, b, plan, results, askers[b])
			if e != api.OK {
				rods = -1
			}
			many[rods]++
		}
	})
	if len(many) < 7 || min(many[-1], many[0], many[1], many[2], many[3]) < 100 || min(many[4], many[5]) < 3 {
		t.Error("too few of one kind:", many)
	}
}

// P8.9
func TestEither(t *testing.T) {
	askAll(t, api.MaxRodPlates, 2000, func(t *testing.T, _ *dice, b api.RodBook, plan [][]int) {
		tells := rod.CheckTells(b, plan)
		one, other, e := rod.Alike(b, plan)
		switch {
		case tells == api.OK && e == api.ErrNone:
		case tells == api.ErrRod && e == api.OK:
			if slices.Equal(one, other) || !slices.Equal(mustResults(t, b, plan, one), mustResults(t, b, plan, other)) {
				t.Error(one, other)
			}
		default:
			t.Error(tells, one, other, e)
		}
		var all [][]int
		for _, results := range resultsUpTo(len(plan)) {
			told, e := rod.Told(b, plan, results)
			for _, bad := range told {
				if e != api.OK || !slices.Equal(mustResults(t, b, plan, bad), results) {
					t.Error(results, bad, e)
				}
			}
			if e == api.OK && tells == api.OK && len(told) != 1 {
				t.Error(results, told)
			}
			all = append(all, told...)
		}
		slices.SortFunc(all, slices.Compare)
		cases := mustCases(t, b)
		slices.SortFunc(cases, slices.Compare)
		if !same(all, cases) {
			t.Error("each case is told just once:", all)
		}
	})
}

// P8.10
func TestPlain(t *testing.T) {
	many := map[bool]int{}
	askAll(t, api.MaxRodPlates, 6000, func(t *testing.T, _ *dice, b api.RodBook, plan [][]int) {
		plain := rod.CheckPlain(b, plan) == api.OK
		many[plain]++
		if e := rod.CheckTells(b, plan); plain && e != api.OK {
			t.Error("plain, but", e)
		}
		for _, bad := range mustCases(t, b) {
			suspects := mustSuspects(t, b, plan, mustResults(t, b, plan, bad))
			if plain && !slices.Equal(suspects, bad) || !isIn(bad, suspects) {
				t.Error(plain, bad, suspects)
			}
		}
	})
	if min(many[true], many[false]) < 500 {
		t.Error("too few of one kind:", many)
	}
}

// P8.11
func TestEnough(t *testing.T) {
	needed := map[api.RodBook]int{}
	for plates := 1; plates <= api.MaxRodNeeded; plates++ {
		for most := range api.MaxRodBad + 1 {
			b := book(plates, most)
			needed[b] = mustNeeded(t, b, nil, nil)
			if needed[b] < mustBound(t, b) {
				t.Error(b, needed[b])
			}
		}
	}
	telling := 0
	askAll(t, api.MaxRodPlates, 6000, func(t *testing.T, _ *dice, b api.RodBook, plan [][]int) {
		if rod.CheckTells(b, plan) != api.OK {
			return
		}
		telling++
		if len(plan) < mustBound(t, b) || len(plan) < needed[b] {
			t.Error(needed[b], mustBound(t, b))
		}
	})
	if telling < 1000 {
		t.Error("too few that tell all:", telling)
	}
}

// play casts rods as Next says, in a case, and checks what is left then.
func play(t *testing.T, b api.RodBook, plan [][]int, bad []int) {
	t.Helper()
	plan = cloned(plan)
	rods := len(plan) + mustNeeded(t, b, plan, mustResults(t, b, plan, bad))
	for {
		results := mustResults(t, b, plan, bad)
		next, e := rod.Next(b, plan, results)
		if e == api.ErrNone {
			if told := mustTold(t, b, plan, results); !same(told, lists(bad)) || len(plan) > rods {
				t.Error(bad, "left:", told, "by", plan, "more than", rods)
			}
			return
		}
		if e != api.OK || len(plan) == rods {
			t.Fatal(b, bad, e, plan, rods)
		}
		plan = more(plan, next)
	}
}

// P8.12
func TestPlayed(t *testing.T) {
	for plates := 1; plates <= api.MaxRodNeeded; plates++ {
		for most := range api.MaxRodBad + 1 {
			for _, bad := range mustCases(t, book(plates, most)) {
				play(t, book(plates, most), nil, bad)
			}
		}
	}
	askAll(t, api.MaxRodNeeded, 300, func(t *testing.T, _ *dice, b api.RodBook, plan [][]int) {
		for _, bad := range mustCases(t, b) {
			play(t, b, plan[:min(len(plan), api.MaxRodRods-api.MaxRodNeeded)], bad)
		}
	})
}

// checkMore checks a plan against the one that has a rod less.
func checkMore(t *testing.T, b api.RodBook, plan, longer [][]int) {
	t.Helper()
	if rod.CheckTells(b, plan) == api.OK && rod.CheckTells(b, longer) != api.OK {
		t.Error("tells less:", longer)
	}
	if rod.CheckPlain(b, plan) == api.OK && rod.CheckPlain(b, longer) != api.OK {
		t.Error("not plain:", longer)
	}
	for _, bad := range mustCases(t, b) {
		before, after := mustResults(t, b, plan, bad), mustResults(t, b, longer, bad)
		if len(mustTold(t, b, longer, after)) > len(mustTold(t, b, plan, before)) {
			t.Error("more are left:", longer, bad)
		}
	}
}

// checkNotMore checks that no more rods are needed in a case than by the plan that has a rod less.
func checkNotMore(t *testing.T, b api.RodBook, plan, longer [][]int, bad []int) {
	t.Helper()
	before, after := mustResults(t, b, plan, bad), mustResults(t, b, longer, bad)
	if mustNeeded(t, b, longer, after) > mustNeeded(t, b, plan, before) {
		t.Error("more are needed:", longer, bad)
	}
}

// P8.13
func TestMore(t *testing.T) {
	ask(t, api.MaxRodPlates, 3000, func(t *testing.T, d *dice, b api.RodBook, plan [][]int) {
		if len(plan) < api.MaxRodRods {
			longer := slices.Insert(cloned(plan), d.upTo(len(plan)), d.some(b.Plates, 2))
			checkMore(t, b, plan, longer)
			if b.Plates <= api.MaxRodNeeded {
				checkNotMore(t, b, plan, longer, d.bad(b))
			}
		}
		for fewer := range b.Most {
			if rod.CheckTells(b, plan) == api.OK && rod.CheckTells(book(b.Plates, fewer), plan) != api.OK {
				t.Error("tells less of fewer:", fewer)
			}
		}
	})
}

// toldMany returns for each case, in the order of cases, of how many it is one by its results; increasing.
func toldMany(t *testing.T, b api.RodBook, plan [][]int) []int {
	t.Helper()
	var many []int
	for _, bad := range mustCases(t, b) {
		many = append(many, len(mustTold(t, b, plan, mustResults(t, b, plan, bad))))
	}
	slices.Sort(many)
	return many
}

// P8.14
func TestTurned(t *testing.T) {
	ask(t, api.MaxRodPlates, 6000, func(t *testing.T, d *dice, b api.RodBook, plan [][]int) {
		numbers := d.order(b.Plates)
		var turned [][]int
		for _, at := range d.order(len(plan)) {
			var other []int
			for _, plate := range plan[at] {
				other = append(other, numbers[plate])
			}
			slices.Sort(other)
			turned = append(turned, other)
		}
		if one, other := toldMany(t, b, plan), toldMany(t, b, turned); !slices.Equal(one, other) {
			t.Error(turned, one, other)
		}
		if rod.CheckTells(b, plan) != rod.CheckTells(b, turned) || rod.CheckPlain(b, plan) != rod.CheckPlain(b, turned) {
			t.Error(turned)
		}
	})
}

// P8.15
func TestAlone(t *testing.T) {
	for plates := 1; plates <= api.MaxRodPlates; plates++ {
		for most := range api.MaxRodBad + 1 {
			b := book(plates, most)
			if e := rod.CheckPlain(b, alone(plates)); e != api.OK {
				t.Error(b, e)
			}
			if plates <= api.MaxRodNeeded && most <= 1 && mustNeeded(t, b, nil, nil) != mustBound(t, b) {
				t.Error(b, mustNeeded(t, b, nil, nil), mustBound(t, b))
			}
		}
	}
}
