package rod_test

import (
	"math"
	"slices"
	"testing"

	"porringer/api"
	"porringer/rod"
)

// The tests of this file are those of the promises P8.1 to P8.8: the chapter's examples, its limits and its errors.

// P8.1
func TestCheckBook(t *testing.T) {
	for i, x := range []struct {
		b api.RodBook
		e api.Errno
	}{
		{chapterB(), api.OK},
		{book(1, 0), api.OK},
		{book(1, 2), api.OK},
		{book(8, 0), api.OK},
		{book(8, 2), api.OK},
		{api.RodBook{}, api.ErrMany},
		{book(0, 1), api.ErrMany},
		{book(9, 1), api.ErrMany},
		{book(-1, 1), api.ErrMany},
		{book(math.MaxInt, 1), api.ErrMany},
		{book(math.MinInt, 1), api.ErrMany},
		{book(0, 3), api.ErrMany},
		{book(9, -1), api.ErrMany},
		{book(1, 3), api.ErrRange},
		{book(8, 3), api.ErrRange},
		{book(4, -1), api.ErrRange},
		{book(4, math.MaxInt), api.ErrRange},
		{book(4, math.MinInt), api.ErrRange},
	} {
		if e := rod.CheckBook(x.b); e != x.e {
			t.Error(i, e)
		}
		if _, e := rod.Cases(x.b); e != x.e {
			t.Error(i, e)
		}
	}
}

// P8.1
func TestCases(t *testing.T) {
	for i, x := range []struct {
		b     api.RodBook
		cases [][]int
	}{
		{chapterB(), lists(list(), list(0), list(1), list(2), list(3))},
		{book(1, 0), lists(list())},
		{book(1, 1), lists(list(), list(0))},
		{book(1, 2), lists(list(), list(0))},
		{book(2, 2), lists(list(), list(0), list(1), list(0, 1))},
		{book(3, 2), lists(list(), list(0), list(1), list(2), list(0, 1), list(0, 2), list(1, 2))},
		{book(8, 0), lists(list())},
		{book(8, 1), lists(list(), list(0), list(1), list(2), list(3), list(4), list(5), list(6), list(7))},
	} {
		if cases, e := rod.Cases(x.b); !same(cases, x.cases) || e != api.OK {
			t.Error(i, cases, e)
		}
	}
	cases := mustCases(t, book(8, 2))
	if len(cases) != 37 || !same(cases[7:11], lists(list(6), list(7), list(0, 1), list(0, 2))) || !slices.Equal(cases[36], list(6, 7)) {
		t.Error(cases)
	}
}

// P8.2
func TestCheckPlan(t *testing.T) {
	for i, x := range []struct {
		b    api.RodBook
		plan [][]int
		e    api.Errno
	}{
		{chapterB(), chapterP(), api.OK},
		{chapterB(), chapterQ(), api.OK},
		{chapterB(), nil, api.OK},
		{chapterB(), lists(list()), api.OK},
		{chapterB(), lists(list(0, 1, 2, 3), list(), list(3), list(3)), api.OK},
		{chapterB(), slices.Repeat(lists(list(3)), 8), api.OK},
		{book(8, 2), ring(), api.OK},
		{book(1, 0), lists(list(0)), api.OK},
		{chapterB(), slices.Repeat(lists(list(3)), 9), api.ErrMany},
		{chapterB(), slices.Repeat(lists(list(4)), 9), api.ErrMany},
		{chapterB(), slices.Repeat(lists(list()), 9), api.ErrMany},
		{chapterB(), slices.Repeat(lists(list(4)), 8), api.ErrRange},
		{chapterB(), lists(list(4)), api.ErrRange},
		{chapterB(), lists(list(-1)), api.ErrRange},
		{chapterB(), lists(list(1, 0)), api.ErrRange},
		{chapterB(), lists(list(2, 2)), api.ErrRange},
		{chapterB(), lists(list(0, 1), list(), list(0, 1, 2, 3, 4)), api.ErrRange},
		{chapterB(), lists(list(0, 1), list(2, 1), list(3)), api.ErrRange},
		{book(1, 0), lists(list(1)), api.ErrRange},
		{book(8, 2), lists(list(7, 8)), api.ErrRange},
		{book(8, 2), lists(list(math.MaxInt)), api.ErrRange},
		{book(8, 2), lists(list(math.MinInt)), api.ErrRange},
		{book(0, 0), nil, api.ErrMany},
		{book(4, 3), slices.Repeat(lists(list(4)), 9), api.ErrRange},
	} {
		if e := rod.CheckPlan(x.b, x.plan); e != x.e {
			t.Error(i, e)
		}
		if _, e := rod.Results(x.b, x.plan, nil); e != x.e {
			t.Error(i, e)
		}
	}
}

// P8.2
func TestResults(t *testing.T) {
	for i, x := range []struct {
		b       api.RodBook
		plan    [][]int
		bad     []int
		results []int
		e       api.Errno
	}{
		{chapterB(), chapterQ(), list(0), list(1, 1, 0), api.OK},
		{chapterB(), chapterQ(), list(3), list(0, 0, 1), api.OK},
		{chapterB(), chapterQ(), nil, list(0, 0, 0), api.OK},
		{chapterB(), chapterQ(), list(0, 1), nil, api.ErrArg},
		{chapterB(), chapterQ(), list(4), nil, api.ErrArg},
		{chapterB(), chapterQ(), list(-1), nil, api.ErrArg},
		{chapterB(), chapterQ(), list(math.MaxInt), nil, api.ErrArg},
		{chapterB(), chapterQ(), list(1), list(1, 0, 0), api.OK},
		{chapterB(), chapterQ(), list(2), list(0, 1, 0), api.OK},
		{chapterB(), nil, list(2), nil, api.OK},
		{chapterB(), lists(list(), list(0, 1, 2, 3)), list(2), list(0, 1), api.OK},
		{chapterB(), lists(list(), list(0, 1, 2, 3)), nil, list(0, 0), api.OK},
		{book(4, 0), chapterQ(), nil, list(0, 0, 0), api.OK},
		{book(4, 0), chapterQ(), list(0), nil, api.ErrArg},
		{book(4, 2), chapterQ(), list(0, 1), list(1, 1, 0), api.OK},
		{book(4, 2), chapterQ(), list(2, 3), list(0, 1, 1), api.OK},
		{book(4, 2), chapterQ(), list(3, 2), nil, api.ErrArg},
		{book(4, 2), chapterQ(), list(2, 2), nil, api.ErrArg},
		{book(4, 2), chapterQ(), list(2, 4), nil, api.ErrArg},
		{book(4, 2), chapterQ(), list(0, 1, 2), nil, api.ErrArg},
		{book(1, 2), lists(list(0)), list(0), list(1), api.OK},
		{book(1, 2), lists(list(0)), list(0, 0), nil, api.ErrArg},
		{book(8, 2), ring(), list(0, 7), list(1, 0, 0, 0, 0, 0, 1, 1), api.OK},
		{book(8, 2), ring(), list(2, 4), list(0, 1, 1, 1, 1, 0, 0, 0), api.OK},
		{book(8, 2), slices.Repeat(lists(list(7)), 8), list(7), list(1, 1, 1, 1, 1, 1, 1, 1), api.OK},
	} {
		if results, e := rod.Results(x.b, x.plan, x.bad); !slices.Equal(results, x.results) || e != x.e {
			t.Error(i, results, e)
		}
	}
}

// P8.3
func TestCheckTellsAndAlike(t *testing.T) {
	for i, x := range []struct {
		b     api.RodBook
		plan  [][]int
		alike [][]int
	}{
		{chapterB(), chapterP(), lists(list(), list(3))},
		{chapterB(), chapterQ(), nil},
		{chapterB(), nil, lists(list(), list(0))},
		{chapterB(), lists(list(0, 1, 2, 3)), lists(list(0), list(1))},
		{chapterB(), lists(list(0, 1, 2, 3), list(0, 2)), lists(list(0), list(2))},
		{chapterB(), lists(list(0, 1, 2, 3), list(0, 2), list(0, 2)), lists(list(0), list(2))},
		{chapterB(), lists(list(0, 1, 2, 3), list(0, 3), list(0)), lists(list(1), list(2))},
		{chapterB(), lists(list(1, 3), list(0, 1), list(2, 3)), nil},
		{chapterB(), alone(4), nil},
		{chapterB(), alone(3), lists(list(), list(3))},
		{book(4, 0), nil, nil},
		{book(4, 0), lists(list()), nil},
		{book(1, 0), nil, nil},
		{book(1, 1), nil, lists(list(), list(0))},
		{book(1, 2), lists(list()), lists(list(), list(0))},
		{book(1, 2), lists(list(0)), nil},
		{book(4, 2), chapterQ(), lists(list(0), list(0, 1))},
		{book(4, 2), alone(4), nil},
		// Two of three plates are as the third one in each rod with two of them.
		{book(3, 2), lists(list(0, 1), list(0, 2), list(1, 2)), lists(list(0, 1), list(0, 2))},
		{book(8, 2), ring(), nil},
		{book(8, 2), ring()[:7], lists(list(1), list(0, 1))},
		{book(8, 2), alone(8), nil},
		{book(8, 2), alone(7), lists(list(), list(7))},
		{book(8, 1), lists(list(0, 1, 2, 3), list(0, 1, 4, 5), list(0, 2, 4, 6)), lists(list(), list(7))},
	} {
		e, f := api.ErrRod, api.OK
		one, other := []int(nil), []int(nil)
		if x.alike == nil {
			e, f = api.OK, api.ErrNone
		} else {
			one, other = x.alike[0], x.alike[1]
		}
		if got := rod.CheckTells(x.b, x.plan); got != e {
			t.Error(i, got)
		}
		if first, later, got := rod.Alike(x.b, x.plan); !slices.Equal(first, one) || !slices.Equal(later, other) || got != f {
			t.Error(i, first, later, got)
		}
	}
}

// P8.4
func TestTold(t *testing.T) {
	for i, x := range []struct {
		b       api.RodBook
		plan    [][]int
		results []int
		told    [][]int
		e       api.Errno
	}{
		{chapterB(), chapterP(), list(0, 0), lists(list(), list(3)), api.OK},
		{chapterB(), chapterP(), list(1, 0), lists(list(1)), api.OK},
		{chapterB(), chapterQ(), list(1, 1, 1), nil, api.ErrRod},
		{chapterB(), chapterQ(), list(1, 1, 0), lists(list(0)), api.OK},
		{chapterB(), chapterQ(), list(0, 0, 0), lists(list()), api.OK},
		{chapterB(), chapterQ(), list(0, 1, 1), nil, api.ErrRod},
		{chapterB(), chapterP(), list(0), nil, api.ErrEqual},
		{chapterB(), chapterP(), list(0, 0, 0), nil, api.ErrEqual},
		{chapterB(), chapterP(), nil, nil, api.ErrEqual},
		{chapterB(), chapterP(), list(0, 2), nil, api.ErrRange},
		{chapterB(), chapterP(), list(-1, 0), nil, api.ErrRange},
		{chapterB(), chapterP(), list(1, math.MaxInt), nil, api.ErrRange},
		{chapterB(), nil, nil, lists(list(), list(0), list(1), list(2), list(3)), api.OK},
		{chapterB(), lists(list()), list(0), lists(list(), list(0), list(1), list(2), list(3)), api.OK},
		{chapterB(), lists(list()), list(1), nil, api.ErrRod},
		{book(4, 0), lists(list(0)), list(1), nil, api.ErrRod},
		{book(4, 0), lists(list(0)), list(0), lists(list()), api.OK},
		{book(4, 2), chapterQ(), list(1, 1, 1), lists(list(0, 3)), api.OK},
		{book(4, 2), chapterQ(), list(1, 1, 0), lists(list(0), list(0, 1), list(0, 2), list(1, 2)), api.OK},
		{book(3, 2), lists(list(0, 1), list(0, 2), list(1, 2)), list(1, 1, 1), lists(list(0, 1), list(0, 2), list(1, 2)), api.OK},
		{book(8, 2), ring(), list(0, 1, 1, 1, 1, 0, 0, 0), lists(list(2, 4)), api.OK},
		{book(8, 2), ring(), list(1, 0, 1, 0, 1, 0, 1, 0), nil, api.ErrRod},
		{book(8, 2), alone(8), list(1, 0, 0, 0, 0, 1, 0, 1), nil, api.ErrRod},
	} {
		if told, e := rod.Told(x.b, x.plan, x.results); !same(told, x.told) || e != x.e {
			t.Error(i, told, e)
		}
	}
}

// P8.5
func TestCheckPlainAndCovered(t *testing.T) {
	for i, x := range []struct {
		b     api.RodBook
		plan  [][]int
		bad   []int
		plate int // -1: the plan is plain
	}{
		{chapterB(), chapterQ(), list(0), 1},
		{chapterB(), chapterP(), nil, 3},
		{chapterB(), alone(4), nil, -1},
		{chapterB(), nil, nil, 0},
		{chapterB(), lists(list(0, 1, 2, 3)), list(0), 1},
		{chapterB(), lists(list(1, 2, 3)), nil, 0},
		{chapterB(), lists(list(1, 2, 3), list(0, 2, 3)), list(2), 0},
		{chapterB(), lists(list(0, 1), list(2, 3), list(0, 2), list(1, 3)), nil, -1},
		{chapterB(), lists(list(1, 2), list(0, 3), list(0, 2), list(3)), list(2), 1},
		{chapterB(), lists(list(1, 2), list(0, 3), list(1, 2), list(0), list(3)), list(1), 2},
		{book(4, 2), lists(list(0, 1), list(2, 3), list(0, 2), list(1, 3)), list(0, 3), 1},
		{book(4, 2), alone(4), nil, -1},
		{book(4, 0), lists(list(0, 1, 2, 3)), nil, -1},
		{book(4, 0), lists(list(0, 1), list(2), list(1)), nil, 3},
		{book(4, 0), nil, nil, 0},
		{book(1, 0), lists(list(0)), nil, -1},
		{book(1, 2), lists(list(0)), nil, -1},
		{book(1, 2), lists(list()), nil, 0},
		{book(8, 2), ring(), list(0, 2), 1},
		{book(8, 1), ring(), nil, -1},
		{book(8, 2), alone(8), nil, -1},
		{book(8, 2), alone(7), nil, 7},
	} {
		e, f, plate := api.ErrRule, api.OK, x.plate
		if x.plate < 0 {
			e, f, plate = api.OK, api.ErrNone, 0
		}
		if got := rod.CheckPlain(x.b, x.plan); got != e {
			t.Error(i, got)
		}
		if bad, got, g := rod.Covered(x.b, x.plan); !slices.Equal(bad, x.bad) || got != plate || g != f {
			t.Error(i, bad, got, g)
		}
	}
}

// P8.6
func TestSuspects(t *testing.T) {
	for i, x := range []struct {
		b        api.RodBook
		plan     [][]int
		results  []int
		suspects []int
		e        api.Errno
	}{
		{chapterB(), chapterQ(), list(1, 1, 0), list(0, 1, 2), api.OK},
		{chapterB(), chapterQ(), list(0, 0, 1), list(3), api.OK},
		{chapterB(), chapterQ(), list(0, 0), nil, api.ErrEqual},
		{chapterB(), chapterQ(), list(0, 0, 0, 0), nil, api.ErrEqual},
		{chapterB(), chapterQ(), list(0, 0, 2), nil, api.ErrRange},
		{chapterB(), chapterQ(), list(0, 0, -1), nil, api.ErrRange},
		{chapterB(), chapterQ(), list(2, 0), nil, api.ErrEqual},
		// Also by results that are those of no case.
		{chapterB(), chapterQ(), list(1, 1, 1), list(0, 1, 2, 3), api.OK},
		{chapterB(), chapterQ(), list(0, 1, 1), list(2, 3), api.OK},
		{chapterB(), chapterQ(), list(0, 0, 0), nil, api.OK},
		{chapterB(), chapterP(), list(0, 0), list(3), api.OK},
		{chapterB(), nil, nil, list(0, 1, 2, 3), api.OK},
		{chapterB(), lists(list()), list(0), list(0, 1, 2, 3), api.OK},
		{chapterB(), lists(list()), list(1), list(0, 1, 2, 3), api.OK},
		{chapterB(), lists(list(1, 2), list(1, 2)), list(0, 1), list(0, 3), api.OK},
		{book(8, 2), ring(), list(0, 1, 1, 1, 1, 0, 0, 0), list(2, 3, 4), api.OK},
		{book(8, 2), nil, nil, list(0, 1, 2, 3, 4, 5, 6, 7), api.OK},
		{book(8, 0), alone(8), list(1, 1, 1, 1, 1, 1, 1, 0), list(0, 1, 2, 3, 4, 5, 6), api.OK},
	} {
		if suspects, e := rod.Suspects(x.b, x.plan, x.results); !slices.Equal(suspects, x.suspects) || e != x.e {
			t.Error(i, suspects, e)
		}
	}
}

// P8.7
func TestBound(t *testing.T) {
	for i, bounds := range [][]int{{0, 1, 1}, {0, 2, 2}, {0, 2, 3}, {0, 3, 4}, {0, 3, 4}, {0, 3, 5}, {0, 3, 5}, {0, 4, 6}} {
		for most, want := range bounds {
			if bound, e := rod.Bound(book(i+1, most)); bound != want || e != api.OK {
				t.Error(i+1, most, bound, e)
			}
		}
	}
	if bound, e := rod.Bound(book(4, 3)); bound != 0 || e != api.ErrRange {
		t.Error(bound, e)
	}
}

// P8.8
func TestNeeded(t *testing.T) {
	for i, needed := range [][]int{{0, 1, 1}, {0, 2, 2}, {0, 2, 3}, {0, 3, 4}, {0, 3, 5}} {
		for most, want := range needed {
			if rods, e := rod.Needed(book(i+1, most), nil, nil); rods != want || e != api.OK {
				t.Error(i+1, most, rods, e)
			}
		}
	}
}

// P8.8
func TestNeededAndNext(t *testing.T) {
	for i, x := range []struct {
		b       api.RodBook
		plan    [][]int
		results []int
		rods    int
		e       api.Errno
	}{
		{chapterB(), nil, nil, 3, api.OK},
		{chapterB(), chapterP(), list(0, 0), 1, api.OK},
		{chapterB(), chapterP(), list(1, 0), 0, api.OK},
		{chapterB(), chapterQ(), list(0, 0, 0), 0, api.OK},
		{chapterB(), chapterQ(), list(1, 1, 1), 0, api.ErrRod},
		{chapterB(), chapterQ(), list(1, 1), 0, api.ErrEqual},
		{chapterB(), chapterQ(), list(1, 1, 2), 0, api.ErrRange},
		{chapterB(), lists(list(0)), list(0), 2, api.OK},
		{chapterB(), lists(list(0)), list(1), 0, api.OK},
		{chapterB(), lists(list(0, 1, 2, 3)), list(1), 2, api.OK},
		{chapterB(), slices.Repeat(lists(list()), 8), slices.Repeat(list(0), 8), 3, api.OK},
		{book(4, 2), lists(list(0, 1, 2, 3)), list(1), 4, api.OK},
		{book(4, 2), lists(list(0, 1)), list(0), 2, api.OK},
		{book(4, 2), lists(list(0)), list(1), 2, api.OK},
		{book(4, 0), nil, nil, 0, api.OK},
		{book(5, 2), nil, nil, 5, api.OK},
		{book(5, 2), lists(list(0, 1)), list(0), 3, api.OK},
		{book(5, 2), lists(list(0)), list(1), 3, api.OK},
		{book(5, 2), alone(5), list(1, 0, 0, 0, 1), 0, api.OK},
		{book(5, 2), alone(5), list(1, 0, 1, 0, 1), 0, api.ErrRod},
		{book(6, 0), nil, nil, 0, api.ErrMany},
		{book(6, 1), nil, nil, 0, api.ErrMany},
		{book(8, 2), nil, nil, 0, api.ErrMany},
		{book(6, 1), alone(6), list(0, 0, 0, 0, 0, 1), 0, api.ErrMany},
		{book(6, 1), alone(6), list(0, 0, 0, 0, 1, 1), 0, api.ErrMany},
		{book(6, 1), alone(6), list(0, 0, 0, 0, 2, 1), 0, api.ErrRange},
		{book(6, 1), alone(6), list(0), 0, api.ErrEqual},
	} {
		if rods, e := rod.Needed(x.b, x.plan, x.results); rods != x.rods || e != x.e {
			t.Error(i, rods, e)
		}
		e := x.e
		if e == api.OK && x.rods == 0 {
			e = api.ErrNone
		}
		next, f := rod.Next(x.b, x.plan, x.results)
		if f != e || f != api.OK && len(next) > 0 {
			t.Error(i, next, f)
		}
		if a := newAsker(x.b); f == api.OK && (rod.CheckPlan(x.b, lists(next)) != api.OK || !a.isBest(a.left(x.plan, x.results), next)) {
			t.Error(i, next)
		}
	}
}
