package stone_test

import (
	"math"
	"slices"
	"testing"

	"porringer/api"
	"porringer/stone"
)

// The tests of this file are those of the promises P10.1 to P10.7: the chapter's examples, its limits and its errors.

// doubled returns the set of so many kinds whose weights are the powers of 2, with one weight of each.
func doubled(kinds int) []api.StoneKind { return perfectOf(1, slices.Repeat(list(2), kinds)) }

// P10.1
func TestCheckSet(t *testing.T) {
	for i, x := range []struct {
		set []api.StoneKind
		e   api.Errno
	}{
		{chapterK(), api.OK},
		{chapterD(), api.OK},
		{chapterE(), api.OK},
		{set(2, 1, 2, 1), api.ErrRule},
		{set(1, 301), api.ErrRange},
		{nil, api.ErrMany},
		{doubled(8), api.OK},
		{doubled(9), api.ErrMany},
		{slices.Repeat(set(0, 0), 9), api.ErrMany},
		{set(1, 1), api.OK},
		{set(1, 300), api.OK},
		{set(300, 1), api.OK},
		{set(301, 1), api.ErrRange},
		{set(0, 1), api.ErrRange},
		{set(1, 0), api.ErrRange},
		{set(-1, 1), api.ErrRange},
		{set(1, -1), api.ErrRange},
		{set(1, math.MaxInt64), api.ErrRange},
		{set(math.MaxInt64, 1), api.ErrRange},
		{set(math.MinInt64, 1), api.ErrRange},
		{set(1, math.MinInt64), api.ErrRange},
		{set(1<<32, 1<<32), api.ErrRange},
		{set(2, 1, 1, 0), api.ErrRange},
		{set(2, 1, 2, 1, 1, 301), api.ErrRange},
		{set(2, 1, 1, 1), api.ErrRule},
		{set(1, 1, 3, 1, 2, 1), api.ErrRule},
		{set(1, 1, 2, 1, 3, 1, 4, 1, 5, 1, 6, 1, 7, 1, 7, 1), api.ErrRule},
		{set(200, 2, 100, 1), api.ErrRule},
		{set(100, 3), api.OK},
		{set(100, 2, 101, 1), api.ErrOver},
		{set(151, 2), api.ErrOver},
		{set(150, 2), api.OK},
		{set(300, 300), api.ErrOver},
		{set(1, 1, 300, 1), api.ErrOver},
		{set(1, 1, 299, 1), api.OK},
		{set(1, 2, 2, 149), api.OK},
		{set(1, 3, 2, 149), api.ErrOver},
		{set(293, 300, 294, 300, 295, 300, 296, 300, 297, 300, 298, 300, 299, 300, 300, 300), api.ErrOver},
	} {
		if e := stone.CheckSet(x.set); e != x.e {
			t.Error(i, e)
		}
	}
}

// P10.1
func TestCheckLay(t *testing.T) {
	for i, x := range []struct {
		set          []api.StoneKind
		pans         int
		lay          []int64
		amount, uses int64
		e            api.Errno
	}{
		{chapterK(), 2, list(-1, -1, 1), 5, 3, api.OK},
		{chapterK(), 1, list(-1, -1, 1), 0, 0, api.ErrRange},
		{chapterD(), 2, list(1), 0, 0, api.ErrEqual},
		{chapterK(), 1, list(1, 0, 1), 10, 2, api.OK},
		{chapterK(), 2, list(1, 0, 1), 10, 2, api.OK},
		{chapterK(), 1, list(0, 0, 0), 0, 0, api.OK},
		{chapterK(), 2, list(0, 0, 0), 0, 0, api.OK},
		{chapterK(), 2, list(-1, -1, -1), -13, 3, api.OK},
		{chapterK(), 2, list(0, 0, -1), -9, 1, api.OK},
		{chapterK(), 1, list(1, 1, 1), 13, 3, api.OK},
		{chapterK(), 1, list(0, 0, 2), 0, 0, api.ErrRange},
		{chapterK(), 2, list(0, 0, 2), 0, 0, api.ErrRange},
		{chapterK(), 2, list(-2, 0, 0), 0, 0, api.ErrRange},
		{chapterK(), 2, list(0, math.MaxInt64, 0), 0, 0, api.ErrRange},
		{chapterK(), 2, list(0, math.MinInt64, 0), 0, 0, api.ErrRange},
		{chapterK(), 1, list(math.MinInt64, 0, 0), 0, 0, api.ErrRange},
		{chapterK(), 2, nil, 0, 0, api.ErrEqual},
		{chapterK(), 2, list(2, 2, 2, 2), 0, 0, api.ErrEqual},
		{chapterK(), 1, list(-1, -1), 0, 0, api.ErrEqual},
		{chapterD(), 1, list(1, 2), 5, 3, api.OK},
		{chapterD(), 2, list(1, -2), -3, 3, api.OK},
		{chapterD(), 1, list(1, 3), 0, 0, api.ErrRange},
		{chapterD(), 2, list(1, -3), 0, 0, api.ErrRange},
		{chapterD(), 1, list(2, 1), 0, 0, api.ErrRange},
		{set(1, 300), 2, list(-300), -300, 300, api.OK},
		{set(300, 1), 1, list(1), 300, 1, api.OK},
		{set(1, 300), 1, list(301), 0, 0, api.ErrRange},
		{chapterK(), 0, list(2), 0, 0, api.ErrArg},
		{chapterK(), 3, list(0, 0, 2), 0, 0, api.ErrArg},
		{chapterK(), -1, list(-1, -1, 1), 0, 0, api.ErrArg},
		{nil, 0, list(1), 0, 0, api.ErrMany},
		{set(1, 301), 0, nil, 0, 0, api.ErrRange},
		{set(2, 1, 2, 1), 3, list(0), 0, 0, api.ErrRule},
		{set(151, 2), 3, list(0, 0), 0, 0, api.ErrOver},
	} {
		if amount, uses, e := stone.CheckLay(x.set, x.pans, x.lay); amount != x.amount || uses != x.uses || e != x.e {
			t.Error(i, amount, uses, e)
		}
	}
}

// P10.2
func TestWeighsUptoAndGap(t *testing.T) {
	for i, x := range []struct {
		set     []api.StoneKind
		pans    int
		amounts []int64
		upto    int64
		gap     int64
		e       api.Errno
	}{
		{chapterK(), 1, list(1, 3, 4, 9, 10, 12, 13), 1, 2, api.OK},
		{chapterK(), 2, upTo(13), 13, 0, api.ErrNone},
		{chapterE(), 2, list(1, 2, 3, 5), 3, 4, api.OK},
		{chapterE(), 1, list(2, 3, 5), 0, 1, api.OK},
		{chapterD(), 1, upTo(5), 5, 0, api.ErrNone},
		{chapterD(), 2, upTo(5), 5, 0, api.ErrNone},
		{set(1, 1), 1, upTo(1), 1, 0, api.ErrNone},
		{set(1, 1), 2, upTo(1), 1, 0, api.ErrNone},
		{set(2, 1), 1, list(2), 0, 1, api.OK},
		{set(2, 1), 2, list(2), 0, 1, api.OK},
		{set(300, 1), 1, list(300), 0, 1, api.OK},
		{set(300, 1), 2, list(300), 0, 1, api.OK},
		{set(1, 300), 1, upTo(300), 300, 0, api.ErrNone},
		{set(1, 300), 2, upTo(300), 300, 0, api.ErrNone},
		{set(1, 1, 299, 1), 1, list(1, 299, 300), 1, 2, api.OK},
		{set(1, 1, 299, 1), 2, list(1, 298, 299, 300), 1, 2, api.OK},
		{set(1, 2, 4, 1), 1, list(1, 2, 4, 5, 6), 2, 3, api.OK},
		{set(1, 2, 4, 1), 2, upTo(6), 6, 0, api.ErrNone},
		{set(100, 3), 1, list(100, 200, 300), 0, 1, api.OK},
		{set(100, 1, 101, 1), 2, list(1, 100, 101, 201), 1, 2, api.OK},
		// No lay reaches the amount next to the last one.
		{set(2, 1, 3, 1, 4, 1), 1, list(2, 3, 4, 5, 6, 7, 9), 0, 1, api.OK},
		{set(2, 1, 3, 1, 4, 1), 2, list(1, 2, 3, 4, 5, 6, 7, 9), 7, 8, api.OK},
		{doubled(8), 1, upTo(255), 255, 0, api.ErrNone},
		{doubled(8), 2, upTo(255), 255, 0, api.ErrNone},
		{chapterK(), 0, nil, 0, 0, api.ErrArg},
		{chapterK(), 3, nil, 0, 0, api.ErrArg},
		{chapterK(), math.MinInt, nil, 0, 0, api.ErrArg},
		{chapterK(), math.MaxInt, nil, 0, 0, api.ErrArg},
		{nil, 0, nil, 0, 0, api.ErrMany},
		{doubled(9), 1, nil, 0, 0, api.ErrMany},
		{set(0, 1), 0, nil, 0, 0, api.ErrRange},
		{set(2, 1, 2, 1), 3, nil, 0, 0, api.ErrRule},
		{set(1, 1, 300, 1), 2, nil, 0, 0, api.ErrOver},
	} {
		e := x.e
		if e == api.ErrNone {
			e = api.OK
		}
		if amounts, f := stone.Weighs(x.set, x.pans); !slices.Equal(amounts, x.amounts) || f != e {
			t.Error(i, amounts, f)
		}
		if upto, f := stone.Upto(x.set, x.pans); upto != x.upto || f != e {
			t.Error(i, upto, f)
		}
		if gap, f := stone.Gap(x.set, x.pans); gap != x.gap || f != x.e {
			t.Error(i, gap, f)
		}
	}
}

// P10.3
func TestWays(t *testing.T) {
	for i, x := range []struct {
		set    []api.StoneKind
		pans   int
		amount int64
		ways   int64
		e      api.Errno
	}{
		{chapterK(), 2, 5, 1, api.OK},
		{chapterD(), 2, 1, 2, api.OK},
		{chapterD(), 1, 4, 1, api.OK},
		{chapterK(), 1, 5, 0, api.OK},
		{chapterK(), 1, 301, 0, api.ErrRange},
		{chapterK(), 1, 300, 0, api.OK},
		{chapterK(), 2, 14, 0, api.OK},
		{chapterK(), 2, 13, 1, api.OK},
		{chapterK(), 2, 0, 1, api.OK},
		{chapterK(), 1, 0, 1, api.OK},
		{chapterK(), 2, -1, 0, api.ErrRange},
		{chapterK(), 2, math.MaxInt64, 0, api.ErrRange},
		{chapterK(), 2, math.MinInt64, 0, api.ErrRange},
		{chapterD(), 2, 0, 1, api.OK},
		{chapterD(), 2, 2, 1, api.OK},
		{chapterD(), 2, 3, 2, api.OK},
		{chapterD(), 2, 5, 1, api.OK},
		{chapterE(), 2, 1, 1, api.OK},
		{chapterE(), 2, 4, 0, api.OK},
		// Three weights of 2, two of 3: none, or three of 2 and two of 3 on either pan.
		{set(2, 3, 3, 2), 2, 0, 3, api.OK},
		{set(2, 3, 3, 2), 1, 6, 2, api.OK},
		{set(1, 300), 1, 300, 1, api.OK},
		{set(1, 300), 2, 300, 1, api.OK},
		{set(300, 1), 2, 300, 1, api.OK},
		{set(1, 1, 2, 1, 3, 1), 1, 3, 2, api.OK},
		// 0, and 1 and 2 on one pan, 3 on the other one.
		{set(1, 1, 2, 1, 3, 1), 2, 0, 3, api.OK},
		{doubled(8), 1, 255, 1, api.OK},
		{doubled(8), 1, 256, 0, api.OK},
		{chapterK(), 0, 301, 0, api.ErrArg},
		{chapterK(), 3, -1, 0, api.ErrArg},
		{nil, 0, -1, 0, api.ErrMany},
		{set(1, 0), 0, 301, 0, api.ErrRange},
		{set(2, 1, 2, 1), 0, 301, 0, api.ErrRule},
		{set(151, 2), 0, 301, 0, api.ErrOver},
	} {
		if ways, e := stone.Ways(x.set, x.pans, x.amount); ways != x.ways || e != x.e {
			t.Error(i, ways, e)
		}
	}
}

// P10.4
func TestFewestAndLay(t *testing.T) {
	for i, x := range []struct {
		set    []api.StoneKind
		pans   int
		amount int64
		lay    []int64
		e      api.Errno
	}{
		{chapterK(), 2, 5, list(-1, -1, 1), api.OK},
		{chapterK(), 1, 5, nil, api.ErrStone},
		{chapterD(), 2, 1, list(1, 0), api.OK},
		{chapterD(), 2, 3, list(1, 1), api.OK},
		{chapterD(), 2, 0, list(0, 0), api.OK},
		{chapterD(), 1, 0, list(0, 0), api.OK},
		{chapterD(), 1, 5, list(1, 2), api.OK},
		{chapterK(), 2, 13, list(1, 1, 1), api.OK},
		{chapterK(), 2, 14, nil, api.ErrStone},
		{chapterK(), 2, 300, nil, api.ErrStone},
		{chapterK(), 2, 301, nil, api.ErrRange},
		{chapterK(), 1, 301, nil, api.ErrRange},
		{chapterK(), 1, -1, nil, api.ErrRange},
		{chapterK(), 1, math.MaxInt64, nil, api.ErrRange},
		{chapterK(), 1, math.MinInt64, nil, api.ErrRange},
		{set(1, 300), 1, 300, list(300), api.OK},
		{set(1, 300), 2, 299, list(299), api.OK},
		{set(300, 1), 2, 300, list(1), api.OK},
		{set(300, 1), 2, 299, nil, api.ErrStone},
		// 2 and 2, and 1 and 3, are two weights each.
		{set(1, 2, 2, 2, 3, 2), 1, 4, list(0, 2, 0), api.OK},
		{set(1, 1, 2, 1, 3, 1, 4, 1), 1, 5, list(0, 1, 1, 0), api.OK},
		// So are 5 less 1, 7 less 3, and 1 and 3.
		{set(1, 1, 3, 1, 5, 1, 7, 1), 2, 4, list(-1, 0, 1, 0), api.OK},
		{set(1, 1, 3, 1, 7, 1), 2, 4, list(0, -1, 1), api.OK},
		// 8 less 2 uses fewer weights than 6, and 8 less 4 more than 4.
		{set(1, 6, 8, 1), 2, 6, list(-2, 1), api.OK},
		{set(1, 6, 8, 1), 2, 4, list(4, 0), api.OK},
		{set(1, 6, 8, 1), 1, 6, list(6, 0), api.OK},
		{set(1, 5, 5, 1, 6, 1), 2, 5, list(0, 1, 0), api.OK},
		{doubled(8), 1, 255, slices.Repeat(list(1), 8), api.OK},
		{doubled(8), 2, 255, slices.Repeat(list(1), 8), api.OK},
		{doubled(8), 2, 127, list(-1, 0, 0, 0, 0, 0, 0, 1), api.OK},
		{doubled(8), 1, 256, nil, api.ErrStone},
		{chapterK(), 0, 301, nil, api.ErrArg},
		{chapterK(), 3, 5, nil, api.ErrArg},
		{nil, 0, 301, nil, api.ErrMany},
		{set(301, 1), 0, -1, nil, api.ErrRange},
		{set(3, 1, 2, 1), 0, 301, nil, api.ErrRule},
		{set(1, 1, 300, 1), 0, 301, nil, api.ErrOver},
	} {
		var uses int64
		for _, number := range x.lay {
			uses += max(number, -number)
		}
		if lay, e := stone.Lay(x.set, x.pans, x.amount); !slices.Equal(lay, x.lay) || e != x.e {
			t.Error(i, lay, e)
		}
		if fewest, e := stone.Fewest(x.set, x.pans, x.amount); fewest != uses || e != x.e {
			t.Error(i, fewest, e)
		}
	}
}

// P10.5
func TestCheckPerfectAndFactors(t *testing.T) {
	for i, x := range []struct {
		set     []api.StoneKind
		pans    int
		amount  int64
		factors []int64
		e       api.Errno
	}{
		{chapterK(), 2, 13, list(3, 3, 3), api.OK},
		{chapterK(), 1, 2, nil, api.ErrStone},
		{chapterD(), 1, 5, list(2, 3), api.OK},
		{chapterD(), 2, 1, nil, api.ErrStone},
		{chapterE(), 1, 1, nil, api.ErrStone},
		{chapterE(), 2, 4, nil, api.ErrStone},
		{set(1, 1), 1, 1, list(2), api.OK},
		{set(1, 1), 2, 1, list(3), api.OK},
		{set(2, 1), 1, 1, nil, api.ErrStone},
		{set(2, 1), 2, 1, nil, api.ErrStone},
		{set(1, 300), 1, 300, list(301), api.OK},
		{set(1, 300), 2, 300, list(601), api.OK},
		{set(1, 2, 3, 1), 1, 5, list(3, 2), api.OK},
		{set(1, 2, 5, 2), 2, 12, list(5, 5), api.OK},
		{set(1, 2, 5, 2), 1, 3, nil, api.ErrStone},
		{set(1, 2, 6, 2), 2, 3, nil, api.ErrStone},
		{set(1, 2, 4, 2), 2, 2, nil, api.ErrStone},
		// There is more than one lay for the amount 0.
		{set(1, 2, 2, 1), 2, 0, nil, api.ErrStone},
		{set(1, 2, 2, 1), 1, 2, nil, api.ErrStone},
		// The last amount has one lay, and that before it none.
		{set(1, 1, 2, 1, 5, 1), 1, 4, nil, api.ErrStone},
		{doubled(8), 1, 255, slices.Repeat(list(2), 8), api.OK},
		{doubled(8), 2, 1, nil, api.ErrStone},
		{perfectOf(2, list(3, 3, 3, 3, 3)), 2, 121, list(3, 3, 3, 3, 3), api.OK},
		{chapterK(), 0, 0, nil, api.ErrArg},
		{chapterK(), 3, 0, nil, api.ErrArg},
		{nil, 0, 0, nil, api.ErrMany},
		{doubled(9), 1, 0, nil, api.ErrMany},
		{set(1, -1), 0, 0, nil, api.ErrRange},
		{set(2, 1, 1, 1), 0, 0, nil, api.ErrRule},
		{set(1, 1, 300, 1), 0, 0, nil, api.ErrOver},
	} {
		if amount, e := stone.CheckPerfect(x.set, x.pans); amount != x.amount || e != x.e {
			t.Error(i, amount, e)
		}
		if factors, e := stone.Factors(x.set, x.pans); !slices.Equal(factors, x.factors) || e != x.e {
			t.Error(i, factors, e)
		}
	}
}

// P10.6
func TestCountAndAll(t *testing.T) {
	for i, x := range []struct {
		pans   int
		amount int64
		all    [][]api.StoneKind
		e      api.Errno
	}{
		{1, 5, sets(set(1, 1, 2, 2), set(1, 2, 3, 1), set(1, 5)), api.OK},
		{2, 13, sets(chapterK(), set(1, 1, 3, 4), set(1, 4, 9, 1), set(1, 13)), api.OK},
		{2, 4, sets(set(1, 1, 3, 1), set(1, 4)), api.OK},
		{1, 1, sets(set(1, 1)), api.OK},
		{2, 1, sets(set(1, 1)), api.OK},
		{1, 2, sets(set(1, 2)), api.OK},
		{1, 3, sets(set(1, 1, 2, 1), set(1, 3)), api.OK},
		{2, 2, sets(set(1, 2)), api.OK},
		{2, 7, sets(set(1, 1, 3, 2), set(1, 2, 5, 1), set(1, 7)), api.OK},
		{1, 60, sets(set(1, 60)), api.OK},
		{2, 60, sets(set(1, 5, 11, 5), set(1, 60)), api.OK},
		{1, 58, sets(set(1, 58)), api.OK},
		{1, 57, sets(set(1, 1, 2, 28), set(1, 28, 29, 1), set(1, 57)), api.OK},
		{1, 61, nil, api.ErrRange},
		{2, 61, nil, api.ErrRange},
		{1, 0, nil, api.ErrRange},
		{2, -1, nil, api.ErrRange},
		{2, math.MaxInt64, nil, api.ErrRange},
		{2, math.MinInt64, nil, api.ErrRange},
		{0, 5, nil, api.ErrArg},
		{3, 5, nil, api.ErrArg},
		{0, 0, nil, api.ErrArg},
		{3, 61, nil, api.ErrArg},
		{math.MinInt, math.MinInt64, nil, api.ErrArg},
		{math.MaxInt, math.MaxInt64, nil, api.ErrArg},
	} {
		if all, e := stone.All(x.pans, x.amount); !equalSets(all, x.all) || e != x.e {
			t.Error(i, all, e)
		}
		if count, e := stone.Count(x.pans, x.amount); count != int64(len(x.all)) || e != x.e {
			t.Error(i, count, e)
		}
	}
	// 48 is a product of factors in 48 ways.
	if count, e := stone.Count(1, 47); count != 48 || e != api.OK {
		t.Error(count, e)
	}
}

// P10.7
func TestFewAndEnough(t *testing.T) {
	for i, x := range []struct {
		pans   int
		amount int64
		set    []api.StoneKind
		e      api.Errno
	}{
		{2, 13, chapterK(), api.OK},
		{2, 14, set(1, 1, 3, 1, 9, 1, 27, 1), api.OK},
		{1, 7, set(1, 1, 2, 1, 4, 1), api.OK},
		{1, 8, doubled(4), api.OK},
		{1, 122, nil, api.ErrRange},
		{2, 5, chapterK(), api.OK},
		{2, 122, nil, api.ErrRange},
		{1, 121, doubled(7), api.OK},
		{2, 121, set(1, 1, 3, 1, 9, 1, 27, 1, 81, 1), api.OK},
		{2, 41, set(1, 1, 3, 1, 9, 1, 27, 1, 81, 1), api.OK},
		{2, 40, set(1, 1, 3, 1, 9, 1, 27, 1), api.OK},
		{1, 1, set(1, 1), api.OK},
		{2, 1, set(1, 1), api.OK},
		{1, 2, set(1, 1, 2, 1), api.OK},
		{2, 2, set(1, 1, 3, 1), api.OK},
		{2, 4, set(1, 1, 3, 1), api.OK},
		{1, 3, set(1, 1, 2, 1), api.OK},
		{1, 4, doubled(3), api.OK},
		{1, 63, doubled(6), api.OK},
		{1, 64, doubled(7), api.OK},
		{1, 0, nil, api.ErrRange},
		{2, 0, nil, api.ErrRange},
		{2, -1, nil, api.ErrRange},
		{1, math.MaxInt64, nil, api.ErrRange},
		{1, math.MinInt64, nil, api.ErrRange},
		{0, 5, nil, api.ErrArg},
		{3, 5, nil, api.ErrArg},
		{0, 0, nil, api.ErrArg},
		{3, 122, nil, api.ErrArg},
		{math.MinInt, 1, nil, api.ErrArg},
		{math.MaxInt, 1, nil, api.ErrArg},
	} {
		if enough, e := stone.Enough(x.pans, x.amount); !slices.Equal(enough, x.set) || e != x.e {
			t.Error(i, enough, e)
		}
		if few, e := stone.Few(x.pans, x.amount); few != int64(len(x.set)) || e != x.e {
			t.Error(i, few, e)
		}
	}
}
