package pint_test

import (
	"math"
	"slices"
	"testing"

	"porringer/api"
	"porringer/pint"
)

// The tests of this file are those of the promises P5.1 to P5.9: the chapter's examples, its limits and its errors.

// P5.1
func TestCheckMeasure(t *testing.T) {
	for i, x := range []struct {
		measure api.PintMeasure
		e       api.Errno
	}{
		{chapterM(), api.OK},
		{measure(0, 0, 0), api.OK},
		{measure(100, 100, 100), api.OK},
		{even(0, 0, 100, 8), api.OK},
		{even(100, 100, 0, 8), api.OK},
		{measure(0, 0), api.ErrMany},
		{api.PintMeasure{Heights: []int64{}}, api.ErrMany},
		{measure(-1, 101), api.ErrMany},
		{even(0, 0, 0, 9), api.ErrMany},
		{even(0, 0, 101, 9), api.ErrMany},
		{measure(-1, 0, 0), api.ErrRange},
		{measure(101, 0, 0), api.ErrRange},
		{measure(0, -1, 0), api.ErrRange},
		{measure(0, 101, 0), api.ErrRange},
		{measure(0, 0, -1), api.ErrRange},
		{measure(0, 0, 101), api.ErrRange},
		{measure(0, 0, 0, 0, 0, 0, 0, 0, 0, 101), api.ErrRange},
		{measure(0, 0, 0, 0, 0, 0, 0, 0, 0, -1), api.ErrRange},
		{measure(0, 0, 0, 101, 0), api.ErrRange},
	} {
		if e := pint.CheckMeasure(x.measure); e != x.e {
			t.Error(i, e)
		}
	}
}

// P5.1
func TestCheckDented(t *testing.T) {
	for i, x := range []struct {
		dented api.PintDented
		e      api.Errno
	}{
		{chapterD(), api.OK},
		{wide(), api.OK},
		{dented(0, 0, 0, 0), api.OK},
		{dented(100, 100, 100, 100), api.OK},
		{dented(0, 0, 0, 10), api.OK},
		{dented(0, 0, 90, 100), api.OK},
		{dented(0, 100, 0, 1, 0, 1, 0, 1, 0, 1), api.OK},
		{dented(0, 0), api.ErrMany},
		{api.PintDented{Heights: []api.Range{}}, api.ErrMany},
		{dented(-1, 101), api.ErrMany},
		{dented(0, 0, 0, 0, 0, 0, 0, 0, 0, 0, 0, 0), api.ErrMany},
		{dented(0, 0, 1, 0, 0, 0, 0, 0, 0, 0, 0, 101), api.ErrMany},
		{dented(-1, 0, 0, 0), api.ErrRange},
		{dented(101, 0, 0, 0), api.ErrRange},
		{dented(0, -1, 0, 0), api.ErrRange},
		{dented(0, 101, 0, 0), api.ErrRange},
		{dented(0, 0, 1, 0), api.ErrRange},
		{dented(0, 0, 0, 11), api.ErrRange},
		{dented(0, 0, 89, 100), api.ErrRange},
		{dented(0, 0, -1, 0), api.ErrRange},
		{dented(0, 0, -2, -1), api.ErrRange},
		{dented(0, 0, 95, 101), api.ErrRange},
		{dented(0, 0, 101, 101), api.ErrRange},
		{dented(0, 0, 0, 0, 0, 0, 0, 0, 0, 11), api.ErrRange},
		{dented(0, 0, 0, 0, 0, 0, 0, 0, 5, 4), api.ErrRange},
	} {
		if e := pint.CheckDented(x.dented); e != x.e {
			t.Error(i, e)
		}
	}
}

// The chapter's introduction to its promises: all functions but the checks return ErrRange if the tilt is not from -20 to 20.
func TestTilt(t *testing.T) {
	for _, tilt := range []int64{math.MinInt64, -21, -20, -1, 0, 20, 21, math.MaxInt64} {
		c := goodCall()
		c.tilt = tilt
		isTilt := tilt >= -20 && tilt <= 20
		for _, r := range c.all() {
			if (r.e == api.ErrRange) != (!isTilt && r.name != "CheckMeasure" && r.name != "CheckDented") {
				t.Error(tilt, r)
			}
		}
	}
}

// The chapter's introduction to its promises: functions with a place return ErrArg if it is none.
func TestPlace(t *testing.T) {
	withPlace := []string{"Over", "CheckWalls", "Walls", "CheckOut"}
	for _, m := range []api.PintMeasure{chapterM(), measure(7, 9, 3), even(1, 1, 0, 8)} {
		n := len(m.Heights)
		for _, place := range []int{math.MinInt, -2, -1, 0, n - 1, n, n + 1, 8, 9, math.MaxInt} {
			c := goodCall()
			c.measure, c.place, c.left, c.right = m, place, place, place
			for _, r := range c.all() {
				if isPlace := place >= 0 && place < n; (r.e == api.ErrArg) != (slices.Contains(withPlace, r.name) && !isPlace) {
					t.Error(m, place, r)
				}
			}
		}
	}
}

// dips is a measure with pools of several levels.
func dips() api.PintMeasure { return measure(3, 5, 1, 4, 0, 2, 6, 0) }

// P5.2
func TestDepthsAndHolds(t *testing.T) {
	for i, x := range []struct {
		measure api.PintMeasure
		tilt    int64
		depths  []int64
		holds   int64
	}{
		{chapterM(), 0, list(4, 1, 4), 9},
		{chapterM(), 1, list(4, 0, 2), 6},
		{chapterM(), -1, list(2, 0, 3), 5},
		{dips(), 0, list(2, 0, 4, 2, 0, 5), 13},
		{measure(0, 0, 0), 0, list(0), 0},
		{measure(100, 100, 0), 0, list(100), 100},
		{measure(100, 99, 0), 0, list(99), 99},
		{measure(99, 100, 0), 0, list(99), 99},
		{measure(100, 100, 100), 0, list(0), 0},
		{measure(7, 9, 3), 0, list(4), 4},
		{measure(7, 9, 3), 4, list(0), 0},
		{measure(7, 9, 3), 3, list(1), 1},
		{measure(7, 9, 3), -1, list(5), 5},
		{measure(7, 9, 3), -2, list(4), 4},
		{measure(7, 9, 3), -6, list(0), 0},
		{measure(7, 9, 3), -7, list(0), 0},
		{even(100, 100, 0, 8), 0, slices.Repeat(list(100), 8), 800},
		{even(100, 100, 0, 8), 20, list(80, 60, 40, 20, 0, 0, 0, 0), 200},
		{even(100, 100, 0, 8), -20, list(0, 0, 0, 0, 20, 40, 60, 80), 200},
		{even(100, 100, 100, 8), 0, slices.Repeat(list(0), 8), 0},
		{even(0, 100, 0, 8), 0, slices.Repeat(list(0), 8), 0},
		{even(100, 0, 0, 8), 0, slices.Repeat(list(0), 8), 0},
		{even(100, 0, 0, 8), 20, list(80, 60, 40, 20, 0, 0, 0, 0), 200},
		{measure(0, 0, 9, 0, 0, 8), 0, list(0, 8, 8, 0), 16},
	} {
		if depths, e := pint.Depths(x.measure, x.tilt); !slices.Equal(depths, x.depths) || e != api.OK {
			t.Error("Depths", i, depths, e)
		}
		if holds, e := pint.Holds(x.measure, x.tilt); holds != x.holds || e != api.OK {
			t.Error("Holds", i, holds, e)
		}
	}
}

// P5.3
func TestOver(t *testing.T) {
	basin, ridges := measure(5, 5, 0, 3, 0), measure(2, 2, 0, 5, 0, 5, 0)
	for i, x := range []struct {
		measure api.PintMeasure
		tilt    int64
		place   int
		over    int
		e       api.Errno
	}{
		{chapterM(), 0, 0, api.PintRight, api.OK},
		{chapterM(), 0, 1, api.PintRight, api.OK},
		{chapterM(), 0, 2, api.PintRight, api.OK},
		{chapterM(), 1, 0, api.PintLeft, api.OK},
		{chapterM(), 1, 1, 0, api.ErrNone},
		{chapterM(), 1, 2, api.PintLeft, api.OK},
		{chapterM(), 0, 3, 0, api.ErrArg},
		{chapterM(), 0, -1, 0, api.ErrArg},
		{basin, 0, 0, api.PintBoth, api.OK},
		{basin, 0, 1, api.PintBoth, api.OK},
		{basin, 0, 2, api.PintBoth, api.OK},
		{basin, 1, 0, api.PintLeft, api.OK},
		{basin, -1, 2, api.PintRight, api.OK},
		{ridges, 0, 0, api.PintLeft, api.OK},
		{ridges, 0, 1, 0, api.ErrNone},
		{ridges, 0, 2, api.PintBoth, api.OK},
		{ridges, 0, 3, 0, api.ErrNone},
		{ridges, 0, 4, api.PintRight, api.OK},
		{dips(), 0, 0, api.PintLeft, api.OK},
		{dips(), 0, 3, api.PintLeft, api.OK},
		{dips(), 0, 4, 0, api.ErrNone},
		{dips(), 0, 5, api.PintRight, api.OK},
		{measure(100, 100, 100), 0, 0, 0, api.ErrNone},
		{measure(0, 0, 0), 0, 0, 0, api.ErrNone},
	} {
		if over, e := pint.Over(x.measure, x.tilt, x.place); over != x.over || e != x.e {
			t.Error(i, over, e)
		}
	}
}

// P5.3
func TestPools(t *testing.T) {
	for i, x := range []struct {
		measure api.PintMeasure
		tilt    int64
		pools   [][2]int
	}{
		{chapterM(), 0, [][2]int{{0, 2}}},
		{chapterM(), 1, [][2]int{{0, 0}, {2, 2}}},
		{chapterM(), -1, [][2]int{{0, 0}, {2, 2}}},
		{dips(), 0, [][2]int{{0, 0}, {2, 3}, {5, 5}}},
		{measure(0, 0, 0), 0, nil},
		{measure(1, 1, 0), 0, [][2]int{{0, 0}}},
		{even(1, 1, 0, 8), 0, [][2]int{{0, 7}}},
		{even(1, 1, 1, 8), 0, nil},
		{measure(1, 1, 0, 1, 0, 1, 0, 1, 0, 1), 0, [][2]int{{0, 0}, {2, 2}, {4, 4}, {6, 6}}},
		{measure(9, 9, 1, 0, 9, 0, 0, 9, 0, 1), 0, [][2]int{{0, 1}, {3, 4}, {6, 7}}},
		{measure(9, 9, 1, 0, 9, 9, 0, 9, 9, 9), 0, [][2]int{{0, 1}, {4, 4}}},
		{even(100, 100, 0, 8), 20, [][2]int{{0, 3}}},
		{even(100, 100, 0, 8), -20, [][2]int{{4, 7}}},
	} {
		if pools, e := pint.Pools(x.measure, x.tilt); !slices.Equal(pools, x.pools) || e != api.OK {
			t.Error(i, pools, e)
		}
	}
}

// P5.4
func TestCheckWalls(t *testing.T) {
	for i, x := range []struct {
		tilt               int64
		place, left, right int
		depth              int64
		e                  api.Errno
	}{
		{0, 1, 0, 2, -3, api.OK},
		{0, 1, 2, 2, 0, api.ErrArg},
		{0, 1, -1, 3, 1, api.OK},
		{0, 1, 1, 1, 0, api.OK},
		{0, 1, -1, 1, 0, api.OK},
		{0, 1, 1, 3, 0, api.OK},
		{0, 0, -1, 3, 4, api.OK},
		{0, 0, -1, 1, 3, api.OK},
		{0, 0, 0, 0, 0, api.OK},
		{0, 2, 1, 3, 3, api.OK},
		{0, 2, 2, 3, 0, api.OK},
		{1, 2, 0, 3, -2, api.OK},
		{1, 2, -1, 3, 2, api.OK},
		{-1, 0, -1, 1, 2, api.OK},
		{20, 2, -1, 2, -55, api.OK},
		{0, 0, -2, 3, 0, api.ErrArg},
		{0, 0, -1, 4, 0, api.ErrArg},
		{0, 0, 1, 3, 0, api.ErrArg},
		{0, 2, -1, 1, 0, api.ErrArg},
		{0, 1, 3, -1, 0, api.ErrArg},
		{0, 1, math.MinInt, 3, 0, api.ErrArg},
		{0, 1, -1, math.MaxInt, 0, api.ErrArg},
		{0, 3, 3, 3, 0, api.ErrArg},
		{0, -1, -1, -1, 0, api.ErrArg},
	} {
		if depth, e := pint.CheckWalls(chapterM(), x.tilt, x.place, x.left, x.right); depth != x.depth || e != x.e {
			t.Error(i, depth, e)
		}
	}
}

// P5.4: of several walls of the greatest height the nearest one is meant, which can be the place itself.
func TestWalls(t *testing.T) {
	for i, x := range []struct {
		measure     api.PintMeasure
		tilt        int64
		place       int
		left, right int
	}{
		{chapterM(), 0, 1, -1, 3},
		{chapterM(), -1, 0, -1, 1},
		{chapterM(), 0, 0, -1, 3},
		{chapterM(), 1, 2, 1, 3},
		{measure(0, 0, 0), 0, 0, 0, 0},
		{measure(1, 0, 0), 0, 0, -1, 0},
		{measure(0, 1, 0), 0, 0, 0, 1},
		{measure(3, 3, 3, 3, 3), 0, 1, 1, 1},
		{measure(5, 5, 5, 0, 0, 5), 0, 2, 0, 3},
		{measure(5, 5, 5, 0, 4, 5), 0, 1, 0, 3},
		{measure(6, 6, 5, 0, 4, 5), 0, 2, -1, 4},
		{measure(9, 9, 4, 9, 9, 4, 2, 9, 9, 0), 0, 4, 2, 5},
		{measure(2, 0, 0, 0), 2, 0, 0, 2},
		{measure(0, 0, 0, 0), -2, 1, -1, 1},
		{even(0, 100, 0, 8), 0, 3, 3, 8},
		{even(100, 0, 0, 8), 0, 3, -1, 3},
	} {
		if left, right, e := pint.Walls(x.measure, x.tilt, x.place); left != x.left || right != x.right || e != api.OK {
			t.Error(i, left, right, e)
		}
	}
}

// P5.5
func TestCheckOut(t *testing.T) {
	for i, x := range []struct {
		measure     api.PintMeasure
		tilt        int64
		place, side int
		depth       int64
		e           api.Errno
	}{
		{chapterM(), 0, 1, 2, 1, api.OK},
		{chapterM(), 0, 1, 1, 2, api.OK},
		{chapterM(), 0, 1, 3, 0, api.ErrArg},
		{chapterM(), 0, 1, 0, 0, api.ErrArg},
		{chapterM(), 0, 1, -1, 0, api.ErrArg},
		{chapterM(), 0, 1, math.MaxInt, 0, api.ErrArg},
		{chapterM(), 0, 1, math.MinInt, 0, api.ErrArg},
		{chapterM(), 0, 3, 1, 0, api.ErrArg},
		{chapterM(), 0, 0, 1, 5, api.OK},
		{chapterM(), 0, 0, 2, 4, api.OK},
		{chapterM(), 1, 1, 1, 0, api.OK},
		{chapterM(), 1, 1, 2, 3, api.OK},
		{chapterM(), -1, 2, 2, 3, api.OK},
		{chapterM(), -1, 2, 1, 8, api.OK},
		{dips(), 0, 0, 2, 5, api.OK},
		{dips(), 0, 2, 1, 4, api.OK},
		{measure(0, 0, 9), 0, 0, 1, 0, api.OK},
		{measure(0, 0, 9), 0, 0, 2, 0, api.OK},
		{even(100, 100, 0, 8), 20, 0, 2, 260, api.OK},
	} {
		if depth, e := pint.CheckOut(x.measure, x.tilt, x.place, x.side); depth != x.depth || e != x.e {
			t.Error(i, depth, e)
		}
	}
}

// P5.6, and R8: the first one of several places that are as good.
func TestBest(t *testing.T) {
	for i, x := range []struct {
		measure api.PintMeasure
		tilt    int64
		place   int
		more    int64
	}{
		{chapterM(), 0, 1, 3},
		{chapterM(), 1, 1, 3},
		{chapterM(), -1, 1, 1},
		{measure(0, 0, 0), 0, 0, 0},
		{measure(0, 100, 7), 0, 0, 0},
		{even(9, 9, 0, 8), 0, 0, 0},
		{even(9, 9, 1, 8), 0, 0, 1},
		{measure(5, 5, 1, 2, 2, 1), 0, 1, 2},
		{measure(0, 0, 5, 1, 5), 0, 1, 1},
		{measure(0, 0, 5, 0, 5), 0, 1, 0},
		{measure(3, 3, 9, 9), 0, 0, 3},
		{measure(3, 4, 9, 9), 0, 1, 4},
		{measure(3, 3, 9, 0, 9), 0, 1, 0},
		{measure(4, 4, 9, 0, 3, 9), 0, 2, 3},
		{measure(100, 100, 0, 0, 0, 0, 0, 0, 0, 100), 0, 7, 100},
		{measure(9, 9, 0, 8, 8, 0), 3, 1, 3},
	} {
		place, more := bestOf(x.measure, x.tilt)
		if place != x.place || more != x.more {
			t.Error("by definition", i, place, more)
		}
		if place, more, e := pint.Best(x.measure, x.tilt); place != x.place || more != x.more || e != api.OK {
			t.Error(i, place, more, e)
		}
	}
}

// P5.7
func TestSpan(t *testing.T) {
	for i, x := range []struct {
		dented api.PintDented
		tilt   int64
		span   api.Range
	}{
		{chapterD(), 0, from(7, 10)},
		{chapterD(), 1, from(5, 7)},
		{chapterD(), -1, from(3, 6)},
		{leap(), 0, from(0, 2)},
		{dented(5, 5, 3, 3), 0, from(2, 2)},
		{dented(5, 5, 3, 6), 0, from(0, 2)},
		{dented(0, 0, 0, 5, 0, 0, 0, 5), 0, from(0, 5)},
		{dented(0, 0, 2, 5, 0, 0, 3, 5), 0, from(2, 5)},
		{dented(100, 100, 0, 10, 0, 10, 0, 10, 0, 10), 0, from(360, 400)},
		{dented(100, 100, 90, 100, 90, 100, 90, 100, 90, 100), 0, from(0, 40)},
		{dented(0, 0, 0, 10), 20, from(0, 0)},
	} {
		if span, e := pint.Span(x.dented, x.tilt); span != x.span || e != api.OK {
			t.Error(i, span, e)
		}
	}
}

// sealCases are dented measures with what is asked for, and whether they may be sealed.
func sealCases() []struct {
	dented api.PintDented
	tilt   int64
	asked  api.Range
	sealed int
	e      api.Errno
} {
	return []struct {
		dented api.PintDented
		tilt   int64
		asked  api.Range
		sealed int
		e      api.Errno
	}{
		{chapterD(), 0, from(7, 10), api.PintAlways, api.OK},
		{chapterD(), 0, from(9, 12), api.PintMay, api.OK},
		{chapterD(), 0, from(11, 12), api.PintNever, api.OK},
		{chapterD(), 0, from(2, 1), 0, api.ErrRange},
		{chapterD(), 0, from(8, 10), api.PintMay, api.OK},
		{chapterD(), 0, from(7, 9), api.PintMay, api.OK},
		{chapterD(), 0, from(10, 10), api.PintMay, api.OK},
		{chapterD(), 0, from(7, 7), api.PintMay, api.OK},
		{chapterD(), 0, from(0, 6), api.PintNever, api.OK},
		{chapterD(), 0, from(math.MinInt64, math.MaxInt64), api.PintAlways, api.OK},
		{chapterD(), 0, from(math.MinInt64, math.MinInt64), api.PintNever, api.OK},
		{chapterD(), 0, from(math.MaxInt64, math.MinInt64), 0, api.ErrRange},
		{chapterD(), 0, from(9, 8), 0, api.ErrRange},
		{chapterD(), 1, from(5, 7), api.PintAlways, api.OK},
		{chapterD(), 1, from(7, 8), api.PintMay, api.OK},
		{chapterD(), 1, from(8, 10), api.PintNever, api.OK},
		{leap(), 0, from(1, 1), api.PintNever, api.OK},
		{leap(), 0, from(0, 1), api.PintMay, api.OK},
		{leap(), 0, from(0, 2), api.PintAlways, api.OK},
		{dented(5, 5, 3, 3), 0, from(2, 2), api.PintAlways, api.OK},
		{dented(5, 5, 3, 3), 0, from(3, 3), api.PintNever, api.OK},
		{dented(0, 0, 0, 0), 0, from(-1, -1), api.PintNever, api.OK},
		{wide(), 0, from(0, 400), api.PintAlways, api.OK},
	}
}

// P5.8
func TestSeal(t *testing.T) {
	for i, x := range sealCases() {
		if sealed, e := pint.Seal(x.dented, x.tilt, x.asked); sealed != x.sealed || e != x.e {
			t.Error(i, sealed, e)
		}
	}
}

// P5.9
func TestRightAndWrong(t *testing.T) {
	for i, x := range sealCases() {
		checkTruths(t, x.dented, x.tilt, x.asked, x.sealed, x.e)
		if t.Failed() {
			t.Fatal(i)
		}
	}
}

// checkTruths checks what Right and Wrong return for a measure that is sealed so, or their error.
func checkTruths(t *testing.T, d api.PintDented, tilt int64, asked api.Range, sealed int, e api.Errno) {
	t.Helper()
	right, wrong := e, e
	if e == api.OK && sealed == api.PintNever {
		right = api.ErrPint
	}
	if e == api.OK && sealed == api.PintAlways {
		wrong = api.ErrNone
	}
	check := func(name string, truth []int64, e, want api.Errno, isRight bool) {
		t.Helper()
		if e != want {
			t.Error(name, d, tilt, asked, truth, e)
			return
		}
		if e != api.OK {
			return
		}
		if !isTruth(d, truth) || (among(list(sum(depthsOf(measure(d.Left, d.Right, truth...), tilt))), asked) == 1) != isRight {
			t.Error(name, d, tilt, asked, truth)
		}
	}
	truth, e := pint.Right(d, tilt, asked)
	check("Right", truth, e, right, true)
	truth, e = pint.Wrong(d, tilt, asked)
	check("Wrong", truth, e, wrong, false)
}
