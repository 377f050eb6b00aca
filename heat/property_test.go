package heat_test

import (
	"slices"
	"strings"
	"testing"

	"porringer/api"
	"porringer/heat"
)

// The tests of this file are those of the properties P7.9 to P7.16, and so of P2: each asks many moulds. Before them stand
// tests that hold results against what the definitions give, by other ways than the program's.

// heatsOf returns the heats of a range.
func heatsOf(r api.Range) []int {
	var heats []int
	for h := r.Lo; h <= r.Hi; h++ {
		heats = append(heats, int(h))
	}
	return heats
}

// spansOf returns all ranges of the heats of a mould.
func spansOf(m api.HeatMould) []api.Range {
	var spans []api.Range
	for hi := range m.Casts {
		for lo := range hi + 1 {
			spans = append(spans, span(int64(lo), int64(hi)))
		}
	}
	return spans
}

// plansOf returns all plans with up to so many letters, first the shorter ones, those of one length by their bytes.
func plansOf(most int) []string {
	all := []string{""}
	for begun := 0; len(all[begun]) < most; begun++ {
		all = append(all, all[begun]+"c", all[begun]+"w")
	}
	return all
}

// P7.2, P7.8
func TestRunByDefinition(t *testing.T) {
	many := map[api.Errno]int{}
	askAll(t, 3, 300, func(t *testing.T, d *dice, m api.HeatMould) {
		for range 4 {
			for _, from := range spansOf(m) {
				plan := d.works(m, int(from.Lo), 1+d.upTo(20))
				want, e := span(int64(len(m.Casts)), -1), api.OK
				for _, h := range heatsOf(from) {
					behind, casts, works := runOf(m, h, plan)
					want.Lo, want.Hi = min(want.Lo, int64(behind)), max(want.Hi, int64(behind))
					f := api.OK
					if !works {
						want, e, f = api.Range{}, api.ErrHeat, api.ErrHeat
					}
					if got, number, g := heat.Run(m, h, plan); got != behind || number != casts || g != f {
						t.Error("Run", h, plan, got, number, g)
					}
				}
				if e != api.OK {
					want = api.Range{}
				}
				many[e]++
				if got, f := heat.RunAll(m, from, plan); got != want || f != e {
					t.Error("RunAll", from, plan, got, f)
				}
			}
		}
	})
	if min(many[api.OK], many[api.ErrHeat]) < 2000 {
		t.Error("too few of one kind:", many)
	}
}

// firstOf returns of some plans, in their order, the first one that has so many casts and works from each heat of a range.
func firstOf(m api.HeatMould, plans []string, from api.Range, casts int) (string, bool) {
	at := slices.IndexFunc(plans, func(plan string) bool {
		return strings.Count(plan, "c") == casts && !slices.ContainsFunc(heatsOf(from), func(h int) bool {
			_, _, works := runOf(m, h, plan)
			return !works
		})
	})
	if at < 0 {
		return "", false
	}
	return plans[at], true
}

// checkPlan checks Fewest, Plan and Surely of a range, of which the first plan with the fewest waits is known.
func checkPlan(t *testing.T, m api.HeatMould, from api.Range, casts int, plan string, found bool) {
	t.Helper()
	e := api.OK
	if !found {
		plan, e = "", api.ErrHeat
	}
	if got, f := heat.Surely(m, from, casts); len(got) != len(plan) || f != e {
		t.Error("Surely", from, casts, got, f, plan)
	} else if _, g := heat.RunAll(m, from, got); g != api.OK || e == api.OK && strings.Count(got, "c") != casts {
		t.Error("Surely", from, casts, got, g)
	}
	if from.Lo != from.Hi {
		return
	}
	if got, f := heat.Plan(m, int(from.Lo), casts); got != plan || f != e {
		t.Error("Plan", from, casts, got, f, plan)
	}
	if waits, f := heat.Fewest(m, int(from.Lo), casts); waits != strings.Count(plan, "w") || f != e {
		t.Error("Fewest", from, casts, waits, f, plan)
	}
}

// P7.3, P7.8: of all plans that are long enough for so many casts; fewer waits than there are heats stand before each.
func TestPlanAmongAll(t *testing.T) {
	plans := plansOf(9)
	everySmall(3, func(m api.HeatMould) {
		for _, from := range spansOf(m) {
			for casts := range 4 {
				plan, found := firstOf(m, plans, from, casts)
				checkPlan(t, m, from, casts, plan, found)
			}
		}
		if t.Failed() {
			t.Fatal(m)
		}
	})
}

// P7.3, P7.8
func TestPlanByDefinition(t *testing.T) {
	many := map[bool]int{}
	askAll(t, 3, 200, func(t *testing.T, d *dice, m api.HeatMould) {
		for range 3 {
			for _, from := range []api.Range{d.span(m), span(int64(m.Lo), int64(m.Lo)), span(int64(m.Lo), int64(m.Hi))} {
				casts := d.upTo(d.upTo(api.MaxHeatCasts))
				plan, found := planOf(m, heatsOf(from), casts)
				many[found]++
				checkPlan(t, m, from, casts, plan, found)
			}
		}
	})
	if min(many[true], many[false]) < 200 {
		t.Error("too few of one kind:", many)
	}
}

// P7.4, P7.5, P7.6
func TestMostByDefinition(t *testing.T) {
	many := map[bool]int{}
	askAll(t, 4, 2000, func(t *testing.T, _ *dice, m api.HeatMould) {
		want := mostOf(m)
		if labels, e := heat.Labels(m); !slices.Equal(labels, want) || e != api.OK {
			t.Error("Labels", labels, e, want)
		}
		for from, label := range want {
			most, e, f := label, api.OK, api.ErrHeat
			if label < 0 {
				most, e, f = 0, api.ErrOver, api.OK
			}
			many[label > 1]++
			if got, g := heat.Most(m, from); got != most || g != e {
				t.Error("Most", from, got, g, want)
			}
			if first, again, g := heat.Round(m, from); g != f {
				t.Error("Round", from, first, again, g, want)
			}
		}
	})
	if min(many[true], many[false]) < 300 {
		t.Error("too few of one kind:", many)
	}
}

// P7.6, P7.7
func TestRateByDefinition(t *testing.T) {
	many := map[api.Ratio]int{}
	askAll(t, 3, 3000, func(t *testing.T, _ *dice, m api.HeatMould) {
		most := mostOf(m)
		for from := range most {
			r, e := heat.Rate(m, from)
			many[r]++
			if most[from] >= 0 && (r != api.Ratio{} || e != api.ErrHeat) || most[from] < 0 && (!isRate(m, from, r) || e != api.OK) {
				t.Error("Rate", from, r, e)
			}
			first, again, f := heat.Round(m, from)
			if f != e {
				t.Error("Round", from, first, again, f)
			}
			if e != api.OK {
				continue
			}
			begun, _, works := runOf(m, from, first)
			ended, casts, worksAgain := runOf(m, begun, again)
			if !works || !worksAgain || ended != begun || casts == 0 || max(len(first), len(again)) > api.MaxHeatPlan {
				t.Error("Round", from, first, again)
			}
		}
	})
	if len(many) < 20 || many[ratio(2, 3)] == 0 || many[ratio(5, 2)] == 0 {
		t.Error("too few kinds of rates:", many)
	}
}

// areRight tells by the definition whether labels are right.
func areRight(m api.HeatMould, labels []int) bool {
	for h, label := range labels {
		if label == -1 {
			continue
		}
		if wait := labels[m.Waits[h]]; wait == -1 || wait > label {
			return false
		}
		if cast := labels[m.Casts[h]]; h >= m.Lo && h <= m.Hi && (cast == -1 || cast >= label) {
			return false
		}
	}
	return true
}

// labels returns some of a mould, which are right more often than by chance alone.
func (d *dice) labels(m api.HeatMould) []int {
	labels := mostOf(m)
	by := d.upTo(d.upTo(3))
	for h, label := range labels {
		if label >= 0 {
			labels[h] = label + by
		}
	}
	if d.upTo(3) == 0 {
		h := d.upTo(len(labels) - 1)
		labels[h] = d.upTo(3) - 1
	}
	for h := range labels {
		if d.upTo(30) == 0 {
			labels[h] = -1
		}
	}
	return labels
}

// everyLabels calls a function with all labels from -1 up to a number, of so many heats.
func everyLabels(heats, most int, visit func(labels []int)) {
	labels := slices.Repeat(list(-1), heats)
	for {
		visit(slices.Clone(labels))
		h := 0
		for ; h < heats && labels[h] == most; h++ {
			labels[h] = -1
		}
		if h == heats {
			return
		}
		labels[h]++
	}
}

// P7.5
func TestCheckLabelsByDefinition(t *testing.T) {
	many := map[api.Errno]int{}
	check := func(t *testing.T, m api.HeatMould, labels []int) {
		e := api.ErrSum
		if areRight(m, labels) {
			e = api.OK
		}
		many[e]++
		if got := heat.CheckLabels(m, labels); got != e {
			t.Error(labels, got)
		}
	}
	everySmall(3, func(m api.HeatMould) {
		everyLabels(len(m.Casts), 3, func(labels []int) { check(t, m, labels) })
	})
	ask(t, 2000, func(t *testing.T, d *dice, m api.HeatMould) {
		for range 10 {
			check(t, m, d.labels(m))
		}
	})
	if min(many[api.OK], many[api.ErrSum]) < 3000 {
		t.Error("too few of one kind:", many)
	}
}

// P7.9
func TestProved(t *testing.T) {
	plans := plansOf(7)
	proved := func(t *testing.T, m api.HeatMould, labels []int, from int, plan string) bool {
		_, casts, e := heat.Run(m, from, plan)
		if e == api.OK && labels[from] >= 0 && casts > labels[from] {
			t.Error(labels, from, plan)
		}
		return e == api.OK && labels[from] >= 0 && casts == labels[from]
	}
	tight := 0
	everySmall(2, func(m api.HeatMould) {
		everyLabels(len(m.Casts), 3, func(labels []int) {
			for from := 0; from < len(labels) && heat.CheckLabels(m, labels) == api.OK; from++ {
				for _, plan := range plans {
					proved(t, m, labels, from, plan)
				}
			}
		})
	})
	askAll(t, 4, 1500, func(t *testing.T, d *dice, m api.HeatMould) {
		own, e := heat.Labels(m)
		if f := heat.CheckLabels(m, own); e != api.OK || f != api.OK {
			t.Error(own, e, f)
		}
		for _, labels := range [][]int{own, d.labels(m), d.labels(m)} {
			for from := 0; from < len(labels) && heat.CheckLabels(m, labels) == api.OK; from++ {
				if proved(t, m, labels, from, d.works(m, from, 40)) {
					tight++
				}
			}
		}
	})
	if tight < 1000 {
		t.Error("too few plans with as many casts as their label:", tight)
	}
}

// P7.10
func TestEither(t *testing.T) {
	many := map[api.Errno]int{}
	askAll(t, 4, 800, func(t *testing.T, _ *dice, m api.HeatMould) {
		for from := range m.Casts {
			most, e := heat.Most(m, from)
			first, again, f := heat.Round(m, from)
			many[e]++
			if (e == api.OK) == (f == api.OK) || e != api.OK && e != api.ErrOver || f != api.OK && f != api.ErrHeat {
				t.Error(from, most, e, first, again, f)
			}
			if _, g := heat.CheckRound(m, from, first, again); f == api.OK && g != api.OK {
				t.Error(from, first, again, g)
			}
			_, g := heat.Fewest(m, from, most)
			_, h := heat.Fewest(m, from, most+1)
			if e == api.OK && (g != api.OK || h != api.ErrHeat) || e != api.OK && g+h != api.OK {
				t.Error(from, most, e, g, h)
			}
			if _, g := heat.Fewest(m, from, api.MaxHeatCasts); (g == api.OK) != (f == api.OK) {
				t.Error(from, g, f)
			}
		}
	})
	if min(many[api.OK], many[api.ErrOver]) < 1000 {
		t.Error("too few of one kind:", many)
	}
}

// P7.11
func TestHotter(t *testing.T) {
	sure := 0
	askAll(t, 4, 800, func(t *testing.T, d *dice, m api.HeatMould) {
		for range 5 {
			from := d.span(m)
			plan := d.works(m, int(from.Lo), d.upTo(20))
			low, _, e := heat.Run(m, int(from.Lo), plan)
			high, _, f := heat.Run(m, int(from.Hi), plan)
			if e != api.OK || f != api.OK {
				continue
			}
			if low > high {
				t.Error("cooler:", from, plan, low, high)
			}
			if from.Lo < from.Hi && strings.Contains(plan, "c") {
				sure++
			}
			if all, e := heat.RunAll(m, from, plan); all != span(int64(low), int64(high)) || e != api.OK {
				t.Error("not surely:", from, plan, all, e)
			}
		}
	})
	if sure < 500 {
		t.Error("too few plans that surely work:", sure)
	}
}

// P7.12
func TestGrown(t *testing.T) {
	most := 0
	ask(t, 120, func(t *testing.T, d *dice, m api.HeatMould) {
		from := d.upTo(len(m.Casts) - 1)
		for casts := range api.MaxHeatCasts {
			more, e := heat.Fewest(m, from, casts+1)
			if e != api.OK {
				break
			}
			if waits := mustFewest(t, m, from, casts); waits > more {
				t.Error(from, casts, waits, more)
			}
			most = max(most, casts+1)
		}
		for range 20 {
			plan := d.works(m, from, 30)
			behind, casts, e := heat.Run(m, from, plan)
			others := d.upTo(max(api.MaxHeatCasts-casts, 0))
			if e != api.OK || casts+others > api.MaxHeatCasts {
				continue
			}
			rest, e := heat.Fewest(m, behind, others)
			if e != api.OK {
				continue
			}
			if waits := mustFewest(t, m, from, casts+others); waits > len(plan)-casts+rest {
				t.Error(from, plan, others, rest, waits)
			}
			if first, e := heat.Plan(m, from, casts); e == api.OK {
				behind, _, _ := heat.Run(m, from, first)
				rest, e := heat.Fewest(m, behind, others)
				if e == api.OK && mustFewest(t, m, from, casts+others) > len(first)-casts+rest {
					t.Error(from, first, others, rest)
				}
			}
		}
	})
	if most != api.MaxHeatCasts {
		t.Error("never as many casts as can be:", most)
	}
}

// P7.13
func TestRate(t *testing.T) {
	above := 0
	ask(t, 250, func(t *testing.T, d *dice, m api.HeatMould) {
		for from := range m.Casts {
			r, e := heat.Rate(m, from)
			if e != api.OK {
				continue
			}
			for _, casts := range list(d.upTo(api.MaxHeatCasts), api.MaxHeatCasts) {
				waits := int64(mustFewest(t, m, from, casts))
				if least := int64(casts-len(m.Casts)) * r.Num; waits*r.Den < least {
					t.Error(from, casts, waits, r)
				} else if least > 0 {
					above++
				}
			}
			first, again, _ := heat.Round(m, from)
			plan := d.works(m, from, 40)
			for range 3 {
				if got, e := heat.CheckRound(m, from, first, again); e == api.OK && rateBefore(got, r) {
					t.Error(from, first, again, got, r)
				}
				cut := d.upTo(len(plan))
				first, again = plan[:cut], plan[cut:cut+d.upTo(len(plan)-cut)]
			}
		}
	})
	if above < 500 {
		t.Error("too few heats for which waits are needed:", above)
	}
}

// P7.14
func TestWider(t *testing.T) {
	better := 0
	ask(t, 500, func(t *testing.T, d *dice, m api.HeatMould) {
		wide := cloned(m)
		wide.Lo -= d.upTo(m.Lo)
		wide.Hi += d.upTo(len(m.Casts) - 1 - m.Hi)
		for from := range m.Casts {
			casts := d.upTo(d.upTo(api.MaxHeatCasts))
			waits, e := heat.Fewest(m, from, casts)
			fewer, f := heat.Fewest(wide, from, casts)
			if e == api.OK && (f != api.OK || fewer > waits) {
				t.Error("waits", from, wide, casts, waits, fewer, f)
			}
			most, e := heat.Most(m, from)
			more, f := heat.Most(wide, from)
			if f == api.OK && (e != api.OK || more < most) {
				t.Error("casts", from, wide, most, e, more)
			}
			r, e := heat.Rate(m, from)
			less, f := heat.Rate(wide, from)
			if e == api.OK && (f != api.OK || rateBefore(r, less)) {
				t.Error("rate", from, wide, r, less, f)
			}
			if e == api.OK && rateBefore(less, r) {
				better++
			}
		}
	})
	if better < 100 {
		t.Error("too few that are better:", better)
	}
}

// P7.15
func TestSure(t *testing.T) {
	many := 0
	askAll(t, 4, 3000, func(t *testing.T, d *dice, m api.HeatMould) {
		from, casts := d.span(m), 1+d.upTo(6)
		plan, e := heat.Surely(m, from, casts)
		if e != api.OK {
			return
		}
		if from.Lo < from.Hi {
			many++
		}
		narrow := span(from.Lo+int64(d.upTo(int(from.Hi-from.Lo))), from.Hi)
		narrow.Hi -= int64(d.upTo(int(narrow.Hi - narrow.Lo)))
		if _, e := heat.RunAll(m, narrow, plan); e != api.OK {
			t.Error("narrower:", from, narrow, plan, e)
		}
		if fewer, e := heat.Surely(m, narrow, casts); len(fewer) > len(plan) || e != api.OK {
			t.Error("narrower:", from, narrow, plan, fewer, e)
		}
		for _, h := range heatsOf(from) {
			_, number, e := heat.Run(m, h, plan)
			if e != api.OK || number != casts || mustFewest(t, m, h, casts) > len(plan)-casts {
				t.Error("from a heat:", h, plan, number, e)
			}
		}
	})
	if many < 500 {
		t.Error("too few plans for more than one heat:", many)
	}
}

// P7.16
func TestBegun(t *testing.T) {
	ask(t, 400, func(t *testing.T, d *dice, m api.HeatMould) {
		from := d.upTo(len(m.Casts) - 1)
		plan := d.works(m, from, 30)
		end, casts, e := heat.Run(m, from, plan)
		if e != api.OK {
			t.Error("does not work:", from, plan, e)
		}
		for i := range len(plan) + 1 {
			behind, begun, e := heat.Run(m, from, plan[:i])
			if e != api.OK {
				t.Error("beginning:", from, plan[:i], e)
			}
			if got, left, e := heat.Run(m, behind, plan[i:]); got != end || begun+left != casts || e != api.OK {
				t.Error("what is left:", from, plan, i, got, left, e)
			}
		}
		for i := range len(plan) + 1 {
			other := plan[:i] + "c" + plan[i:]
			_, _, e := heat.Run(m, from, other)
			behind, _, _ := heat.Run(m, from, plan[:i])
			if _, _, f := heat.Run(m, behind, other[i:]); f != e {
				t.Error("with one cast more:", from, other, i, e, f)
			}
		}
	})
}
