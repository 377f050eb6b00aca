package pint_test

import (
	"slices"
	"testing"

	"porringer/api"
	"porringer/pint"
)

// The tests of this file are those of the properties P5.10 to P5.16, and so of P2: each asks many measures. Before them
// stand tests that hold results against what the definitions give, by other ways than the program's.

// P5.2
func TestDepthsByFlood(t *testing.T) {
	check := func(t *testing.T, m api.PintMeasure, tilt int64) {
		depths, want := mustDepths(t, m, tilt), flooded(m, tilt)
		if !slices.Equal(want, depthsOf(m, tilt)) {
			t.Fatal("by definition", m, tilt, want, depthsOf(m, tilt))
		}
		if !slices.Equal(depths, want) || mustHolds(t, m, tilt) != sum(want) {
			t.Error(m, tilt, depths, want)
		}
	}
	for tilt := range int64(3) {
		everySmall(func(m api.PintMeasure) { check(t, m, tilt-1) })
	}
	ask(t, 3000, func(t *testing.T, _ *dice, m api.PintMeasure, tilt int64) { check(t, m, tilt) })
}

// everySmall calls a function with all measures of up to four places, with heights up to 2.
func everySmall(visit func(m api.PintMeasure)) {
	all := [][]int64{nil}
	for many := range 7 {
		var longer [][]int64
		for _, numbers := range all {
			for height := range int64(3) {
				longer = append(longer, append(slices.Clone(numbers), height))
			}
			if many > 2 {
				visit(measure(numbers[0], numbers[1], numbers[2:]...))
			}
		}
		all = longer
	}
}

// P5.3, P5.4, P5.5
func TestPlacesByDefinition(t *testing.T) {
	both, dry := 0, 0
	ask(t, 2000, func(t *testing.T, _ *dice, m api.PintMeasure, tilt int64) {
		if pools := mustPools(t, m, tilt); !slices.Equal(pools, poolsOf(m, tilt)) {
			t.Error(pools, poolsOf(m, tilt))
		}
		all, depths := tilted(m, tilt), depthsOf(m, tilt)
		for place := range m.Heights {
			left, right := edges(m, tilt, place)
			over, e := api.PintBoth, api.OK
			switch {
			case depths[place] == 0:
				over, e = 0, api.ErrNone
				dry++
			case left < right:
				over = api.PintLeft
			case left > right:
				over = api.PintRight
			default:
				both++
			}
			if got, f := pint.Over(m, tilt, place); got != over || f != e {
				t.Error("Over", place, got, f)
			}
			if l, r := mustWalls(t, m, tilt, place); l != wallOf(m, tilt, place, -1) || r != wallOf(m, tilt, place, len(m.Heights)) {
				t.Error("Walls", place, l, r)
			}
			if depth := mustOut(t, m, tilt, place, api.PintLeft); depth != left-all[place+1] {
				t.Error("left way out", place, depth)
			}
			if depth := mustOut(t, m, tilt, place, api.PintRight); depth != right-all[place+1] {
				t.Error("right way out", place, depth)
			}
		}
	})
	if both < 100 || dry < 100 {
		t.Error("too few of one kind:", both, dry)
	}
}

// P5.6
func TestBestByDefinition(t *testing.T) {
	check := func(m api.PintMeasure, tilt int64) {
		place, more := bestOf(m, tilt)
		if got, its, e := pint.Best(m, tilt); got != place || its != more || e != api.OK {
			t.Error(m, tilt, got, its, e, place, more)
		}
	}
	for tilt := range int64(5) {
		everySmall(func(m api.PintMeasure) { check(m, tilt-2) })
	}
	ask(t, 2000, func(_ *testing.T, _ *dice, m api.PintMeasure, tilt int64) { check(m, tilt) })
}

// P5.7, P5.8, P5.9
func TestTruthsByDefinition(t *testing.T) {
	many := map[int]int{}
	check := func(t *testing.T, d *dice, one api.PintDented, tilt int64) {
		numbers := numbersOf(one, tilt)
		if span := mustSpan(t, one, tilt); span != from(slices.Min(numbers), slices.Max(numbers)) {
			t.Error("Span", span, slices.Min(numbers), slices.Max(numbers))
		}
		for range 4 {
			asked := d.asked(numbers)
			sealed := sealOf(numbers, asked)
			many[sealed]++
			if got := mustSeal(t, one, tilt, asked); got != sealed {
				t.Error("Seal", asked, got, sealed)
			}
			checkTruths(t, one, tilt, asked, sealed, api.OK)
		}
	}
	askDented(t, 700, check)
	d := dice(3)
	for tilt := int64(-20); tilt <= 20; tilt += 10 {
		check(t, &d, wide(), tilt)
	}
	if min(many[api.PintNever], many[api.PintMay], many[api.PintAlways]) < 100 {
		t.Error("too few of one kind:", many)
	}
}

// P5.10
func TestProved(t *testing.T) {
	ask(t, 1000, func(t *testing.T, _ *dice, m api.PintMeasure, tilt int64) {
		n := len(m.Heights)
		for place, depth := range mustDepths(t, m, tilt) {
			for left := -1; left <= place; left++ {
				for right := place; right <= n; right++ {
					if proved, e := pint.CheckWalls(m, tilt, place, left, right); proved > depth || e != api.OK {
						t.Error("walls", place, left, right, proved, e)
					}
				}
			}
			left, right := mustWalls(t, m, tilt, place)
			if proved, e := pint.CheckWalls(m, tilt, place, left, right); proved != depth || e != api.OK {
				t.Error("its walls", place, left, right, proved, e)
			}
			over, e := pint.Over(m, tilt, place)
			if (e == api.ErrNone) != (depth == 0) {
				t.Error("Over", place, over, e)
			}
			for _, side := range []int{api.PintLeft, api.PintRight} {
				proved := mustOut(t, m, tilt, place, side)
				if proved < depth || proved > depth && (over == side || over == api.PintBoth) {
					t.Error("way out", place, side, proved, depth, over)
				}
			}
		}
	})
}

// P5.11
func TestPoolsHold(t *testing.T) {
	several := 0
	ask(t, 2000, func(t *testing.T, _ *dice, m api.PintMeasure, tilt int64) {
		depths, pools := mustDepths(t, m, tilt), mustPools(t, m, tilt)
		var held int64
		isIn := make([]bool, len(depths))
		for _, pool := range pools {
			first, e := pint.Over(m, tilt, pool[0])
			for place := pool[0]; place <= pool[1]; place++ {
				if over, f := pint.Over(m, tilt, place); over != first || e != api.OK || f != api.OK {
					t.Error(pool, place, first, e, over, f)
				}
				held += depths[place]
				isIn[place] = true
			}
		}
		for place, depth := range depths {
			if isIn[place] == (depth == 0) {
				t.Error(pools, place, depth)
			}
		}
		if held != mustHolds(t, m, tilt) {
			t.Error(pools, held)
		}
		if len(pools) > 1 {
			several++
		}
	})
	if several < 200 {
		t.Error("too few measures with several pools:", several)
	}
}

// P5.12: seen from behind.
func TestTurned(t *testing.T) {
	ask(t, 2000, func(t *testing.T, _ *dice, m api.PintMeasure, tilt int64) {
		depths := mustDepths(t, behind(m), -tilt)
		slices.Reverse(depths)
		if !slices.Equal(depths, mustDepths(t, m, tilt)) || mustHolds(t, behind(m), -tilt) != mustHolds(t, m, tilt) {
			t.Error(depths)
		}
	})
}

// P5.12: all heights greater by as much, or as many times as great.
func TestScaled(t *testing.T) {
	scaled := 0
	ask(t, 3000, func(t *testing.T, d *dice, m api.PintMeasure, tilt int64) {
		depths, high := mustDepths(t, m, tilt), highest(m)
		by := d.height(int(api.MaxPintHeight - high))
		if more := changed(m, func(height int64) int64 { return height + by }); !slices.Equal(mustDepths(t, more, tilt), depths) {
			t.Error("greater by", by, mustDepths(t, more, tilt))
		}
		times := 2 + d.height(8)
		if high*times > api.MaxPintHeight || max(tilt, -tilt)*times > api.MaxPintTilt {
			return
		}
		scaled++
		many := changed(m, func(height int64) int64 { return height * times })
		for place, depth := range mustDepths(t, many, tilt*times) {
			if depth != depths[place]*times {
				t.Error("times", times, place, depth)
			}
		}
	})
	if scaled < 300 {
		t.Error("too few measures that are as many times as great:", scaled)
	}
}

// P5.13
func TestHigher(t *testing.T) {
	ask(t, 2000, func(t *testing.T, d *dice, m api.PintMeasure, tilt int64) {
		depths := mustDepths(t, m, tilt)
		left, right := m, m
		left.Left += d.height(int(api.MaxPintHeight - m.Left))
		right.Right += d.height(int(api.MaxPintHeight - m.Right))
		for _, other := range []api.PintMeasure{left, right} {
			for place, depth := range mustDepths(t, other, tilt) {
				if depth < depths[place] {
					t.Error("side", other, place, depth)
				}
			}
		}
		for place, height := range m.Heights {
			other := cloned(m)
			other.Heights[place] += d.height(int(api.MaxPintHeight - height))
			for i, depth := range mustDepths(t, other, tilt) {
				if depth+other.Heights[i] < depths[i]+m.Heights[i] || i == place && depth > depths[i] {
					t.Error("place", other, place, i, depth)
				}
			}
		}
	})
}

// P5.14
func TestSpanned(t *testing.T) {
	narrower := 0
	askDented(t, 500, func(t *testing.T, d *dice, one api.PintDented, tilt int64) {
		span := mustSpan(t, one, tilt)
		lo, hi := false, false
		for _, truth := range truthsOf(one) {
			number := mustHolds(t, measure(one.Left, one.Right, truth...), tilt)
			if among(list(number), span) != 1 {
				t.Error(truth, number, span)
			}
			lo, hi = lo || number == span.Lo, hi || number == span.Hi
		}
		if !lo || !hi {
			t.Error("an end that is not held", span)
		}
		narrow := one
		narrow.Heights = slices.Clone(one.Heights)
		for i := range narrow.Heights {
			r := &narrow.Heights[i]
			r.Lo += d.height(int(r.Hi - r.Lo))
			r.Hi -= d.height(int(r.Hi - r.Lo))
		}
		its := mustSpan(t, narrow, tilt)
		if its.Lo < span.Lo || its.Hi > span.Hi {
			t.Error(narrow, its, span)
		}
		if its != span {
			narrower++
		}
	})
	if narrower < 100 {
		t.Error("too few spans that are narrower:", narrower)
	}
}

// P5.15
func TestSealed(t *testing.T) {
	more := 0
	askDented(t, 700, func(t *testing.T, d *dice, one api.PintDented, tilt int64) {
		asked := d.asked(numbersOf(one, tilt))
		sealed := mustSeal(t, one, tilt, asked)
		if _, e := pint.Right(one, tilt, asked); (e == api.ErrPint) != (sealed == api.PintNever) || e != api.OK && e != api.ErrPint {
			t.Error("Right", asked, sealed, e)
		}
		if _, e := pint.Wrong(one, tilt, asked); (e == api.ErrNone) != (sealed == api.PintAlways) || e != api.OK && e != api.ErrNone {
			t.Error("Wrong", asked, sealed, e)
		}
		wider := from(asked.Lo-d.height(5), asked.Hi+d.height(5))
		its := mustSeal(t, one, tilt, wider)
		if its < sealed {
			t.Error(asked, sealed, wider, its)
		}
		if its > sealed {
			more++
		}
	})
	if more < 50 {
		t.Error("too few measures that are more sealed:", more)
	}
}

// P5.16
func TestFlat(t *testing.T) {
	for left := range int64(api.MaxPintHeight + 1) {
		for right := range int64(api.MaxPintHeight + 1) {
			places := 1 + int(left+right)%api.MaxPintPlaces
			if number := mustHolds(t, even(left, right, 0, places), 0); number != int64(places)*min(left, right) {
				t.Error(left, right, places, number)
			}
		}
	}
}
