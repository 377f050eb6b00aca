package blame_test

import (
	"math"
	"slices"
	"testing"

	"porringer/api"
	"porringer/blame"
)

// The tests of this file are those of the promises P6.1 to P6.8: the chapter's examples, its limits and its errors.

// P6.1
func TestCheckBook(t *testing.T) {
	ten := slices.Repeat(lists(list(0)), 10)
	eleven := slices.Repeat(lists(list(0)), 11)
	for i, x := range []struct {
		b api.BlameBook
		e api.Errno
	}{
		{chapterB(), api.OK},
		{chapterC(), api.OK},
		{chapterD(), api.OK},
		{fullBook(), api.OK},
		{book(1), api.OK},
		{book(8), api.OK},
		{book(1, ten...), api.OK},
		{book(1, list()), api.OK},
		{book(8, list(0, 1, 2, 3, 4, 5, 6, 7)), api.OK},
		{api.BlameBook{}, api.ErrMany},
		{book(0), api.ErrMany},
		{book(9), api.ErrMany},
		{book(-1), api.ErrMany},
		{book(0, list(0)), api.ErrMany},
		{book(9, list(8)), api.ErrMany},
		{book(1, eleven...), api.ErrMany},
		{book(8, eleven...), api.ErrMany},
		{book(math.MaxInt), api.ErrMany},
		{book(math.MinInt), api.ErrMany},
		{book(5, list(5)), api.ErrRange},
		{book(5, list(-1)), api.ErrRange},
		{book(5, list(1, 0)), api.ErrRange},
		{book(5, list(2, 2)), api.ErrRange},
		{book(5, list(0, 1, 4, 5)), api.ErrRange},
		{book(5, list(0, 1), list(), list(4, 3)), api.ErrRange},
		{book(8, list(0, 1, 2, 3, 4, 5, 6, 7, 8)), api.ErrRange},
		{book(1, list(math.MaxInt)), api.ErrRange},
		{book(1, list(math.MinInt)), api.ErrRange},
	} {
		if e := blame.CheckBook(x.b); e != x.e {
			t.Error(i, e)
		}
		if _, e := blame.All(x.b); e != x.e {
			t.Error(i, e)
		}
	}
}

// P6.2
func TestCheckBlameAndTight(t *testing.T) {
	for i, x := range []struct {
		b      api.BlameBook
		set    []int
		number int
		e      api.Errno
		inn    int // the first one that can be left out; -1 if the set is tight, or no blame
	}{
		{chapterB(), list(0, 2), 2, api.OK, -1},
		{chapterB(), list(0, 1), 2, api.ErrBlame, -1},
		{chapterB(), list(0, 1, 3), 3, api.OK, 0},
		{chapterB(), list(5), 0, api.ErrRange, -1},
		{chapterB(), list(-1), 0, api.ErrRange, -1},
		{chapterB(), list(2, 0), 0, api.ErrRange, -1},
		{chapterB(), list(0, 2, 2), 0, api.ErrRange, -1},
		{chapterB(), list(0, 2, 5), 0, api.ErrRange, -1},
		{chapterB(), nil, 0, api.ErrBlame, -1},
		{chapterB(), list(4), 0, api.ErrBlame, -1},
		{chapterB(), list(0), 1, api.ErrBlame, -1},
		{chapterB(), list(1, 2, 4), 3, api.ErrBlame, -1},
		{chapterB(), list(1, 3), 2, api.OK, -1},
		{chapterB(), list(0, 2, 4), 3, api.OK, 4},
		{chapterB(), list(0, 2, 3), 3, api.OK, 3},
		{chapterB(), list(0, 1, 2, 3, 4), 5, api.OK, 0},
		{chapterC(), list(1, 2), 2, api.OK, -1},
		{chapterC(), list(2, 3), 2, api.OK, -1},
		{chapterC(), list(1, 2, 3), 3, api.OK, 1},
		{chapterC(), list(0, 1, 2), 3, api.OK, 0},
		{chapterC(), list(0, 1, 3), 0, api.ErrBlame, -1},
		{chapterC(), list(2), 2, api.ErrBlame, -1},
		{chapterD(), list(0, 1), 0, api.ErrBlame, -1},
		{chapterD(), list(0, 2), 0, api.ErrRange, -1},
		{book(3, list(1), list()), list(1), 1, api.ErrBlame, -1},
		{book(3), nil, 0, api.OK, -1},
		{book(3), list(2), 1, api.OK, 2},
		{book(8), list(0, 1, 2, 3, 4, 5, 6, 7), 8, api.OK, 0},
		{book(8, list(7)), list(7), 1, api.OK, -1},
		{fullBook(), list(0, 2, 3, 7), 4, api.OK, -1},
		{fullBook(), list(0, 2, 3, 5), 1, api.ErrBlame, -1},
		{fullBook(), list(0, 3, 5, 6), 8, api.ErrBlame, -1},
		{fullBook(), list(1, 3, 5, 6), 9, api.ErrBlame, -1},
		{pairBook(), list(1, 2, 5, 6), 4, api.OK, -1},
		{pairBook(), list(1, 2, 5, 6, 7), 5, api.OK, 6},
		{pairBook(), list(0, 1, 2, 3, 4, 5), 3, api.ErrBlame, -1},
	} {
		if number, e := blame.CheckBlame(x.b, x.set); number != x.number || e != x.e {
			t.Error(i, number, e)
		}
		if x.inn >= 0 {
			x.number, x.e = x.inn, api.ErrRule
		}
		if number, e := blame.CheckTight(x.b, x.set); number != x.number || e != x.e {
			t.Error(i, number, e)
		}
	}
}

// P6.3
func TestFewestAndBlame(t *testing.T) {
	for i, x := range []struct {
		b   api.BlameBook
		set []int
		e   api.Errno
	}{
		{chapterB(), list(0, 2), api.OK},
		{chapterC(), list(1, 2), api.OK},
		{chapterD(), nil, api.ErrBlame},
		{book(1, list()), nil, api.ErrBlame},
		{book(3, list(0), list(1), list()), nil, api.ErrBlame},
		{book(3), nil, api.OK},
		{book(8, list(7)), list(7), api.OK},
		{book(8, list(3, 7), list(3, 7)), list(3), api.OK},
		{fullBook(), list(0, 2, 3, 6), api.OK},
		{pairBook(), list(0, 2, 4, 6), api.OK},
		{book(5, list(0, 1), list(1, 0), list(0, 1)), nil, api.ErrRange},
		{book(5, list(0, 1, 4), list(2, 4), list(3, 4)), list(4), api.OK},
		{book(5, list(0, 1), list(2, 4), list(3, 4)), list(0, 4), api.OK},
		{book(5, list(0, 1), list(1, 2), list(1, 3), list(1, 4), list(0, 4)), list(0, 1), api.OK},
		{book(8, list(0), list(1), list(2), list(3), list(4), list(5), list(6), list(7)), list(0, 1, 2, 3, 4, 5, 6, 7), api.OK},
	} {
		if many, e := blame.Fewest(x.b); many != len(x.set) || e != x.e {
			t.Error(i, many, e)
		}
		if set, e := blame.Blame(x.b); !slices.Equal(set, x.set) || e != x.e {
			t.Error(i, set, e)
		}
	}
}

// P6.4
func TestCheckApart(t *testing.T) {
	for i, x := range []struct {
		b     api.BlameBook
		hires []int
		e     api.Errno
	}{
		{chapterB(), list(0, 2), api.OK},
		{chapterB(), list(0, 1), api.ErrRule},
		{chapterB(), list(2, 0), api.ErrRange},
		{chapterB(), nil, api.OK},
		{chapterB(), list(3), api.OK},
		{chapterB(), list(1, 3), api.OK},
		{chapterB(), list(0, 3), api.ErrRule},
		{chapterB(), list(0, 1, 2), api.ErrRule},
		{chapterB(), list(0, 2, 3), api.ErrRule},
		{chapterB(), list(4), api.ErrRange},
		{chapterB(), list(-1), api.ErrRange},
		{chapterB(), list(0, 0), api.ErrRange},
		{chapterB(), list(0, 1, 4), api.ErrRange},
		{chapterC(), list(0, 2), api.OK},
		{chapterC(), list(0, 1), api.ErrRule},
		{chapterC(), list(1, 2), api.ErrRule},
		{chapterD(), list(0), api.ErrRule},
		{chapterD(), list(1), api.OK},
		{chapterD(), list(0, 1), api.ErrRule},
		{chapterD(), list(0, 2), api.ErrRange},
		{book(2, list(0), list()), list(0, 1), api.ErrRule},
		{book(2, list(), list()), list(0, 1), api.ErrRule},
		{book(3), nil, api.OK},
		{book(3), list(0), api.ErrRange},
		{book(1, slices.Repeat(lists(list(0)), 10)...), list(9), api.OK},
		{book(1, slices.Repeat(lists(list(0)), 10)...), list(10), api.ErrRange},
		{book(1, slices.Repeat(lists(list(0)), 10)...), list(0, 9), api.ErrRule},
		{pairBook(), list(0, 1, 2, 3), api.OK},
	} {
		if e := blame.CheckApart(x.b, x.hires); e != x.e {
			t.Error(i, e)
		}
	}
}

// P6.4
func TestApart(t *testing.T) {
	for i, x := range []struct {
		b     api.BlameBook
		hires []int
	}{
		{chapterB(), list(0, 2)},
		{chapterC(), list(0, 2)},
		{chapterD(), list(1)},
		{book(3), nil},
		{book(3, list(), list()), nil},
		{book(3, list(), list(1), list(0, 1), list(2)), list(1, 3)},
		{pairBook(), list(0, 1, 2, 3)},
		{fullBook(), list(1, 2, 4, 7)},
		// The first hire is apart from none; without it three are.
		{book(4, list(0, 1, 2), list(0), list(1), list(2), list(2)), list(1, 2, 3)},
		// As long are 0 3, and then 1 2.
		{book(4, list(0, 1), list(1, 3), list(0, 2), list(2, 3)), list(0, 3)},
		{book(8, list(0), list(1), list(2), list(3), list(4), list(5), list(6), list(7), list(0), list(7)), list(0, 1, 2, 3, 4, 5, 6, 7)},
	} {
		if hires, e := blame.Apart(x.b); !slices.Equal(hires, x.hires) || e != api.OK {
			t.Error(i, hires, e)
		}
	}
}

// P6.5
func TestTight(t *testing.T) {
	for i, x := range []struct {
		b         api.BlameBook
		set, left []int
		e         api.Errno
	}{
		{chapterB(), list(0, 1, 2, 3), list(0, 2), api.OK},
		{chapterB(), list(0, 1, 2, 3, 4), list(0, 2), api.OK},
		{chapterB(), list(1, 2, 3), list(1, 3), api.OK},
		{chapterB(), list(1, 3, 4), list(1, 3), api.OK},
		{chapterB(), list(0, 2), list(0, 2), api.OK},
		{chapterB(), list(0, 1, 4), nil, api.ErrBlame},
		{chapterB(), list(1, 2), nil, api.ErrBlame},
		{chapterB(), list(0, 1, 2, 5), nil, api.ErrRange},
		{chapterB(), list(3, 1), nil, api.ErrRange},
		{chapterC(), list(0, 1, 2, 3), list(1, 2), api.OK},
		{chapterC(), list(0, 2, 3), list(2, 3), api.OK},
		{chapterC(), list(0, 1, 3), nil, api.ErrBlame},
		{chapterD(), list(0, 1), nil, api.ErrBlame},
		{chapterD(), list(0, 1, 2), nil, api.ErrRange},
		{book(3), list(0, 1, 2), nil, api.OK},
		{book(3), nil, nil, api.OK},
		{pairBook(), list(0, 1, 2, 3, 4, 5, 6, 7), list(0, 2, 4, 6), api.OK},
		// Left are not the fewest that could be: 3 alone is enough.
		{book(4, list(0, 3), list(1, 3), list(2, 3)), list(0, 1, 2, 3), list(0, 1, 2), api.OK},
	} {
		if left, e := blame.Tight(x.b, x.set); !slices.Equal(left, x.left) || e != x.e {
			t.Error(i, left, e)
		}
	}
}

// P6.5, P6.8
func TestAllAndDual(t *testing.T) {
	for i, x := range []struct {
		b   api.BlameBook
		all [][]int
	}{
		{chapterB(), lists(list(0, 2), list(1, 3))},
		{chapterC(), lists(list(1, 2), list(2, 3))},
		{chapterD(), nil},
		{book(4, list(0), list(), list(1)), nil},
		{book(3), lists(list())},
		{book(3, list(0, 1, 2), list(1, 2)), lists(list(1), list(2))},
		{book(4, list(0, 3), list(1, 3), list(2, 3)), lists(list(0, 1, 2), list(3))},
		{book(4, list(1, 3), list(0, 2)), lists(list(0, 1), list(0, 3), list(1, 2), list(2, 3))},
		{book(8, list(0, 1, 2, 3, 4, 5, 6, 7)), lists(list(0), list(1), list(2), list(3), list(4), list(5), list(6), list(7))},
		{pairBook(), lists(
			list(0, 2, 4, 6), list(0, 2, 4, 7), list(0, 2, 5, 6), list(0, 2, 5, 7),
			list(0, 3, 4, 6), list(0, 3, 4, 7), list(0, 3, 5, 6), list(0, 3, 5, 7),
			list(1, 2, 4, 6), list(1, 2, 4, 7), list(1, 2, 5, 6), list(1, 2, 5, 7),
			list(1, 3, 4, 6), list(1, 3, 4, 7), list(1, 3, 5, 6), list(1, 3, 5, 7))},
		{fullBook(), tightOf(fullBook())},
	} {
		if all, e := blame.All(x.b); !same(all, x.all) || e != api.OK {
			t.Error(i, all, e)
		}
		if dual, e := blame.Dual(x.b); !sameBook(dual, book(x.b.Inns, x.all...)) || e != api.OK {
			t.Error(i, dual, e)
		}
	}
}

// P6.6
func TestCheckAllAndForgotten(t *testing.T) {
	tight := tightOf(pairBook())
	several := func(many int, set ...int) [][]int { return slices.Repeat(lists(set), many) }
	for i, x := range []struct {
		b         api.BlameBook
		list      [][]int
		all       api.Errno
		set       []int
		forgotten api.Errno
	}{
		{chapterB(), lists(list(0, 2), list(1, 3)), api.OK, nil, api.ErrNone},
		{chapterB(), lists(list(0, 2)), api.ErrSum, list(1, 3), api.OK},
		{chapterB(), lists(list(0), list(1)), api.ErrSum, nil, api.ErrNone},
		{chapterB(), lists(list(1, 3)), api.ErrSum, list(0, 2), api.OK},
		{chapterB(), nil, api.ErrSum, list(0, 2), api.OK},
		{chapterB(), lists(list(1, 3), list(0, 2)), api.ErrSum, nil, api.ErrNone},
		{chapterB(), lists(list(0, 2), list(0, 2), list(1, 3)), api.ErrSum, nil, api.ErrNone},
		{chapterB(), lists(list(0, 2), list(0, 2, 4), list(1, 3)), api.ErrSum, nil, api.ErrNone},
		{chapterB(), lists(list(0, 2), list(1, 3), list(4)), api.ErrSum, nil, api.ErrNone},
		{chapterB(), lists(list(0, 1, 2), list(1, 3)), api.ErrSum, list(0, 2), api.OK},
		{chapterB(), lists(list()), api.ErrSum, nil, api.ErrNone},
		{chapterB(), lists(list(4), list(0, 1), list(0)), api.ErrSum, list(1, 3), api.OK},
		{chapterB(), lists(list(0, 2), list(5)), api.ErrRange, nil, api.ErrRange},
		{chapterB(), lists(list(3, 1), list(0, 2)), api.ErrRange, nil, api.ErrRange},
		{chapterB(), lists(list(0, 2), list(-1), list(1, 3)), api.ErrRange, nil, api.ErrRange},
		{chapterB(), lists(list(0, 0)), api.ErrRange, nil, api.ErrRange},
		{chapterB(), several(80, 0), api.ErrSum, list(1, 3), api.OK},
		{chapterB(), several(81, 0), api.ErrMany, nil, api.ErrMany},
		{chapterB(), several(81, 5), api.ErrMany, nil, api.ErrMany},
		{chapterB(), several(80, 5), api.ErrRange, nil, api.ErrRange},
		{chapterC(), lists(list(1, 2), list(2, 3)), api.OK, nil, api.ErrNone},
		{chapterC(), lists(list(1, 2)), api.ErrSum, list(2, 3), api.OK},
		{chapterD(), nil, api.OK, nil, api.ErrNone},
		{chapterD(), lists(list()), api.ErrSum, nil, api.ErrNone},
		{chapterD(), lists(list(0, 1)), api.ErrSum, nil, api.ErrNone},
		{book(3), nil, api.ErrSum, nil, api.OK},
		{book(3), lists(list()), api.OK, nil, api.ErrNone},
		{book(3), lists(list(0)), api.ErrSum, nil, api.OK},
		{pairBook(), tight, api.OK, nil, api.ErrNone},
		{pairBook(), tight[:15], api.ErrSum, list(1, 3, 5, 7), api.OK},
		{pairBook(), slices.Concat(tight[:5], tight[6:]), api.ErrSum, list(0, 3, 4, 7), api.OK},
		{pairBook(), slices.Concat(tight[:4], tight[5:9], tight[10:]), api.ErrSum, list(0, 3, 4, 6), api.OK},
	} {
		if e := blame.CheckAll(x.b, x.list); e != x.all {
			t.Error(i, e)
		}
		if set, e := blame.Forgotten(x.b, x.list); !slices.Equal(set, x.set) || e != x.forgotten {
			t.Error(i, set, e)
		}
	}
}

// P6.7
func TestKind(t *testing.T) {
	for i, x := range []struct {
		b    api.BlameBook
		inn  int
		kind int
		e    api.Errno
	}{
		{chapterB(), 0, api.BlameMay, api.OK},
		{chapterB(), 3, api.BlameMay, api.OK},
		{chapterB(), 4, api.BlameNever, api.OK},
		{chapterB(), 5, 0, api.ErrArg},
		{chapterB(), -1, 0, api.ErrArg},
		{chapterB(), math.MaxInt, 0, api.ErrArg},
		{chapterB(), math.MinInt, 0, api.ErrArg},
		{chapterC(), 2, api.BlameSure, api.OK},
		{chapterC(), 0, api.BlameNever, api.OK},
		{chapterC(), 1, api.BlameMay, api.OK},
		{chapterC(), 3, api.BlameMay, api.OK},
		{chapterC(), 4, 0, api.ErrArg},
		{chapterD(), 0, 0, api.ErrBlame},
		{chapterD(), 1, 0, api.ErrBlame},
		{chapterD(), 2, 0, api.ErrArg},
		{book(3), 0, api.BlameNever, api.OK},
		{book(3), 2, api.BlameNever, api.OK},
		{book(8, list(0, 7), list(7)), 7, api.BlameSure, api.OK},
		{book(8, list(0, 7), list(7)), 0, api.BlameNever, api.OK},
		{book(8, list(0, 7), list(7)), 8, 0, api.ErrArg},
	} {
		if kind, e := blame.Kind(x.b, x.inn); kind != x.kind || e != x.e {
			t.Error(i, kind, e)
		}
	}
}

// P6.8
func TestCore(t *testing.T) {
	for i, x := range []struct {
		b    api.BlameBook
		core [][]int
	}{
		{chapterB(), lists(list(0, 1), list(0, 3), list(1, 2), list(2, 3))},
		{chapterC(), lists(list(1, 3), list(2))},
		{chapterD(), lists(list())},
		{book(3), nil},
		{book(3, list(), list(), list(1)), lists(list())},
		{book(3, list(2), list(1), list(2), list(1)), lists(list(1), list(2))},
		{book(3, list(0, 1, 2), list(0, 2), list(0, 1)), lists(list(0, 1), list(0, 2))},
		{book(3, list(0, 1), list(0, 1, 2), list(0, 2), list(0, 1)), lists(list(0, 1), list(0, 2))},
		{book(4, list(0, 1, 2), list(0, 1), list(0), list(3)), lists(list(0), list(3))},
		{book(8, slices.Repeat(lists(list(0, 1, 2, 3, 4, 5, 6, 7)), 10)...), lists(list(0, 1, 2, 3, 4, 5, 6, 7))},
		{pairBook(), pairBook().Hires},
		{fullBook(), lists(list(0, 1), list(0, 7), list(1, 2), list(2, 5), list(3, 4), list(6, 7))},
	} {
		if core, e := blame.Core(x.b); !sameBook(core, book(x.b.Inns, x.core...)) || e != api.OK {
			t.Error(i, core, e)
		}
	}
}
