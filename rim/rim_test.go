package rim_test

import (
	"slices"
	"testing"

	"porringer/api"
	"porringer/rim"
)

// The tests of this file are those of the promises P4.1 to P4.8: the chapter's examples, its limits and its errors.

// rimCase is a rim with its error.
type rimCase struct {
	kinds int
	rim   []int
	e     api.Errno
}

func rimCases() []rimCase {
	return []rimCase{
		{2, chapterR(), api.OK},
		{2, chapterS(), api.OK},
		{4, list(3), api.OK},
		{1, list(0), api.OK},
		{1, even(0, 64), api.OK},
		{4, even(3, 64), api.OK},
		{4, list(0, 1, 2, 3), api.OK},
		{5, chapterR(), api.ErrArg},
		{0, chapterR(), api.ErrArg},
		{-1, chapterR(), api.ErrArg},
		{5, nil, api.ErrArg},
		{0, list(-1), api.ErrArg},
		{2, nil, api.ErrMany},
		{2, list(), api.ErrMany},
		{2, even(0, 65), api.ErrMany},
		{2, even(7, 65), api.ErrMany},
		{1, chapterR(), api.ErrRange},
		{2, list(2), api.ErrRange},
		{2, list(-1), api.ErrRange},
		{3, list(0, 1, 2, 3), api.ErrRange},
		{4, append(even(0, 63), 4), api.ErrRange},
		{4, append(even(0, 63), -1), api.ErrRange},
	}
}

// P4.1, and that functions with a rim, or a row, return its error.
func TestCheckRim(t *testing.T) {
	for i, x := range rimCases() {
		if e := rim.CheckRim(x.kinds, x.rim); e != x.e {
			t.Error("CheckRim", i, e)
		}
		if _, e := rim.Turn(x.kinds, x.rim, 0); e != x.e {
			t.Error("Turn", i, e)
		}
		if _, _, e := rim.Least(x.kinds, x.rim); e != x.e {
			t.Error("Least", i, e)
		}
		if _, e := rim.Period(x.kinds, x.rim); e != x.e {
			t.Error("Period", i, e)
		}
		if _, e := rim.Shift(x.kinds, x.rim, x.rim); e != x.e {
			t.Error("Shift", i, e)
		}
		if _, e := rim.Words(x.kinds, x.rim); e != x.e {
			t.Error("Words", i, e)
		}
		if e := rim.CheckWords(x.kinds, x.rim, upTo(len(x.rim))); x.e != api.OK && e != x.e {
			t.Error("CheckWords", i, e)
		}
		if _, e := rim.Find(x.kinds, x.rim, x.rim); e != x.e {
			t.Error("Find", i, e)
		}
	}
}

// P4.1
func TestTurn(t *testing.T) {
	for i, x := range []struct {
		kinds  int
		rim    []int
		by     int
		turned []int
		e      api.Errno
	}{
		{2, chapterR(), 0, list(1, 0, 1, 0, 0), api.OK},
		{2, chapterR(), 1, list(0, 1, 0, 0, 1), api.OK},
		{2, chapterR(), 3, list(0, 0, 1, 0, 1), api.OK},
		{2, chapterR(), 4, list(0, 1, 0, 1, 0), api.OK},
		{2, chapterR(), 5, nil, api.ErrRange},
		{2, chapterR(), -1, nil, api.ErrRange},
		{4, list(3), 0, list(3), api.OK},
		{4, list(3), 1, nil, api.ErrRange},
		{4, list(3, 2, 1, 0), 3, list(0, 3, 2, 1), api.OK},
		{4, append(even(3, 63), 0), 63, append(list(0), even(3, 63)...), api.OK},
		{4, append(even(3, 63), 0), 64, nil, api.ErrRange},
	} {
		if turned, e := rim.Turn(x.kinds, x.rim, x.by); !slices.Equal(turned, x.turned) || e != x.e {
			t.Error(i, turned, e)
		}
	}
}

// P4.2
func TestLeastAndPeriod(t *testing.T) {
	for i, x := range []struct {
		kinds         int
		rim, least    []int
		start, period int
	}{
		{2, chapterR(), list(0, 0, 1, 0, 1), 3, 5},
		{2, chapterS(), list(0, 1, 0, 1), 0, 2},
		{2, list(1, 0, 1, 0), list(0, 1, 0, 1), 1, 2},
		{4, list(3), list(3), 0, 1},
		{2, list(1, 0), list(0, 1), 1, 2},
		{4, even(2, 64), even(2, 64), 0, 1},
		{2, append(even(1, 63), 0), append(list(0), even(1, 63)...), 63, 64},
		{2, slices.Repeat(append(even(1, 31), 0), 2), slices.Repeat(append(list(0), even(1, 31)...), 2), 31, 32},
		{3, list(0, 1, 0, 2, 0, 1, 0), list(0, 0, 1, 0, 2, 0, 1), 6, 7},
		{3, list(2, 0, 1, 2, 0, 1), list(0, 1, 2, 0, 1, 2), 1, 3},
		{2, list(0, 1, 0, 1, 0), list(0, 0, 1, 0, 1), 4, 5},
		{2, list(0, 1, 1, 0, 1, 1, 0, 1), list(0, 1, 0, 1, 1, 0, 1, 1), 6, 8},
	} {
		if least, start, e := rim.Least(x.kinds, x.rim); !slices.Equal(least, x.least) || start != x.start || e != api.OK {
			t.Error(i, least, start, e)
		}
		if period, e := rim.Period(x.kinds, x.rim); period != x.period || e != api.OK {
			t.Error(i, period, e)
		}
	}
}

// P4.3
func TestShift(t *testing.T) {
	for i, x := range []struct {
		kinds    int
		one, two []int
		by       int
		e        api.Errno
	}{
		{2, chapterR(), list(0, 0, 1, 0, 1), 3, api.OK},
		{2, chapterR(), chapterR(), 0, api.OK},
		{2, chapterR(), list(0, 0, 0, 1, 1), 0, api.ErrEqual},
		{2, chapterR(), list(0, 1, 1, 1, 0), 0, api.ErrEqual},
		{2, chapterR(), chapterS(), 0, api.ErrEqual},
		{2, chapterS(), list(1, 0, 1, 0), 1, api.OK},
		{2, chapterS(), list(0, 1), 0, api.ErrEqual},
		{2, list(0, 1), chapterS(), 0, api.ErrEqual},
		{4, list(0, 1, 2, 3), list(3, 0, 1, 2), 3, api.OK},
		{4, list(0, 1, 2, 3), list(3, 2, 1, 0), 0, api.ErrEqual},
		{2, append(even(1, 63), 0), append(list(0), even(1, 63)...), 63, api.OK},
		{5, nil, nil, 0, api.ErrArg},
		{2, nil, list(2), 0, api.ErrMany},
		{2, list(2), nil, 0, api.ErrRange},
		{2, chapterR(), nil, 0, api.ErrMany},
		{2, chapterR(), even(0, 65), 0, api.ErrMany},
		{2, chapterR(), list(2), 0, api.ErrRange},
		{2, chapterR(), list(1, 0, 1, 0, -1), 0, api.ErrRange},
	} {
		if by, e := rim.Shift(x.kinds, x.one, x.two); by != x.by || e != x.e {
			t.Error(i, by, e)
		}
	}
}

// P4.4
func TestCheckWords(t *testing.T) {
	for i, x := range []struct {
		kinds     int
		row, cuts []int
		e         api.Errno
	}{
		{2, chapterR(), list(0, 1, 3, 4), api.OK},
		{2, chapterR(), list(0, 1, 3), api.ErrSum},
		{2, chapterR(), list(1, 3), api.ErrRange},
		{2, chapterR(), list(0), api.ErrSum},
		{2, chapterR(), list(0, 1, 2, 3, 4), api.ErrSum},
		{2, chapterR(), nil, api.ErrRange},
		{2, chapterR(), list(), api.ErrRange},
		{2, chapterR(), list(0, 1, 3, 5), api.ErrRange},
		{2, chapterR(), list(0, 1, 3, 4, 5), api.ErrRange},
		{2, chapterR(), list(0, 1, 1, 3, 4), api.ErrRange},
		{2, chapterR(), list(0, 3, 1, 4), api.ErrRange},
		{2, chapterR(), list(0, 0), api.ErrRange},
		{2, chapterR(), list(-1, 0, 1, 3, 4), api.ErrRange},
		{2, chapterR(), list(0, -1), api.ErrRange},
		{2, chapterR(), list(5), api.ErrRange},
		{2, list(0, 0, 1, 0, 1), list(0), api.OK},
		{2, list(0, 0, 1, 0, 1), list(0, 3), api.ErrSum},
		{2, chapterS(), list(0, 2), api.OK},
		{2, chapterS(), list(0), api.ErrSum},
		{2, list(0, 1, 0, 1, 1), list(0), api.OK},
		{2, list(0, 1, 0, 1, 1), list(0, 2), api.ErrSum},
		{2, list(0, 0), list(0), api.ErrSum},
		{2, list(0, 0), list(0, 1), api.OK},
		{4, list(3), list(0), api.OK},
		{4, even(3, 64), upTo(64), api.OK},
		{4, append(even(2, 63), 3), list(0), api.OK},
		{4, append(even(2, 63), 3), upTo(64), api.ErrSum},
		{2, list(2), list(1), api.ErrRange},
		{2, nil, list(0), api.ErrMany},
		{0, chapterR(), list(0, 1, 3, 4), api.ErrArg},
	} {
		if e := rim.CheckWords(x.kinds, x.row, x.cuts); e != x.e {
			t.Error(i, e)
		}
	}
}

// P4.4
func TestWords(t *testing.T) {
	for i, x := range []struct {
		kinds     int
		row, cuts []int
	}{
		{2, chapterR(), list(0, 1, 3, 4)},
		{2, list(0, 0, 1, 0, 1), list(0)},
		{2, chapterS(), list(0, 2)},
		{4, list(3), list(0)},
		{4, list(3, 2, 1, 0), list(0, 1, 2, 3)},
		{4, list(0, 1, 2, 3), list(0)},
		{2, list(0, 1, 0, 1, 0), list(0, 2, 4)},
		{2, list(0, 1, 0, 1, 1), list(0)},
		{2, list(0, 1, 1, 0, 1, 0, 0, 1), list(0, 3, 5)},
		{3, list(1, 2, 0, 2, 0, 1, 0, 1), list(0, 2, 4, 6)},
		{3, list(0, 2, 0, 1, 1, 0, 1, 0, 1), list(0, 2, 5, 7)},
		{4, even(3, 64), upTo(64)},
		{4, append(even(2, 63), 3), list(0)},
		{4, append(even(2, 63), 1), upTo(64)},
	} {
		if cuts, e := rim.Words(x.kinds, x.row); !slices.Equal(cuts, x.cuts) || e != api.OK {
			t.Error(i, cuts, e)
		}
		if e := rim.CheckWords(x.kinds, x.row, x.cuts); e != api.OK {
			t.Error(i, e)
		}
	}
}

// P4.5
func TestCountAndSingle(t *testing.T) {
	for i, x := range []struct {
		kinds, touches int
		many, single   int64
		e              api.Errno
	}{
		{2, 5, 8, 6, api.OK},
		{2, 4, 6, 3, api.OK},
		{3, 3, 11, 8, api.OK},
		{2, 13, 0, 0, api.ErrMany},
		{2, 0, 0, 0, api.ErrMany},
		{2, -1, 0, 0, api.ErrMany},
		{1, 1, 1, 1, api.OK},
		{1, 2, 1, 0, api.OK},
		{1, 12, 1, 0, api.OK},
		{4, 1, 4, 4, api.OK},
		{4, 2, 10, 6, api.OK},
		{2, 6, 14, 9, api.OK},
		{2, 12, 352, 335, api.OK},
		{3, 12, 44368, 44220, api.OK},
		{4, 11, 381304, 381300, api.OK},
		{4, 12, 1398500, 1397740, api.OK},
		{0, 5, 0, 0, api.ErrArg},
		{5, 5, 0, 0, api.ErrArg},
		{5, 13, 0, 0, api.ErrArg},
	} {
		if many, e := rim.Count(x.kinds, x.touches); many != x.many || e != x.e {
			t.Error("Count", i, many, e)
		}
		if single, e := rim.Single(x.kinds, x.touches); single != x.single || e != x.e {
			t.Error("Single", i, single, e)
		}
	}
}

// P4.6
func TestAll(t *testing.T) {
	for i, x := range []struct {
		kinds, touches int
		all            [][]int
		e              api.Errno
	}{
		{2, 3, [][]int{{0, 0, 0}, {0, 0, 1}, {0, 1, 1}, {1, 1, 1}}, api.OK},
		{2, 4, [][]int{{0, 0, 0, 0}, {0, 0, 0, 1}, {0, 0, 1, 1}, {0, 1, 0, 1}, {0, 1, 1, 1}, {1, 1, 1, 1}}, api.OK},
		{3, 2, [][]int{{0, 0}, {0, 1}, {0, 2}, {1, 1}, {1, 2}, {2, 2}}, api.OK},
		{4, 1, [][]int{{0}, {1}, {2}, {3}}, api.OK},
		{1, 1, [][]int{{0}}, api.OK},
		{1, 12, [][]int{even(0, 12)}, api.OK},
		{4, 6, nil, api.ErrMany},
		{3, 8, nil, api.ErrMany},
		{4, 12, nil, api.ErrMany},
		{2, 13, nil, api.ErrMany},
		{1, 13, nil, api.ErrMany},
		{2, 0, nil, api.ErrMany},
		{2, -1, nil, api.ErrMany},
		{5, 0, nil, api.ErrArg},
		{0, 13, nil, api.ErrArg},
	} {
		if all, e := rim.All(x.kinds, x.touches); !slices.EqualFunc(all, x.all, slices.Equal[[]int]) || e != x.e {
			t.Error(i, all, e)
		}
	}
	for _, x := range [][3]int{{2, 12, 352}, {3, 7, 315}, {4, 5, 208}} {
		if all, e := rim.All(x[0], x[1]); len(all) != x[2] || e != api.OK {
			t.Error(x, len(all), e)
		}
	}
}

// P4.7
func TestCheckRow(t *testing.T) {
	for i, x := range []struct {
		kinds, length int
		rim           []int
		e             api.Errno
	}{
		{2, 3, list(1, 1, 1, 0, 0, 0, 1, 0), api.OK},
		{2, 3, list(0, 0, 0, 1, 1, 0, 1, 1), api.ErrSum},
		{2, 3, list(0, 0, 1), api.ErrEqual},
		{2, 3, list(0, 0, 0, 1, 0, 1, 1, 1, 0), api.ErrEqual},
		{2, 3, nil, api.ErrEqual},
		{2, 3, even(0, 65), api.ErrEqual},
		{2, 3, list(0, 0, 9), api.ErrEqual},
		{2, 3, list(0, 0, 0, 1, 0, 1, 1, 2), api.ErrRange},
		{2, 3, list(-1, 0, 0, 1, 0, 1, 1, 1), api.ErrRange},
		{2, 3, even(0, 8), api.ErrSum},
		{2, 1, list(1, 0), api.OK},
		{2, 1, list(1, 1), api.ErrSum},
		{4, 1, list(2, 3, 1, 0), api.OK},
		{4, 1, list(2, 3, 1, 2), api.ErrSum},
		{3, 2, list(0, 0, 1, 1, 2, 2, 0, 2, 1), api.OK},
		{3, 2, list(0, 0, 1, 1, 2, 2, 0, 1, 2), api.ErrSum},
		{1, 1, list(0), api.OK},
		{1, 6, list(0), api.OK},
		{1, 6, list(1), api.ErrRange},
		{1, 6, even(0, 6), api.ErrEqual},
		{2, 0, list(0), api.ErrMany},
		{2, -1, list(0), api.ErrMany},
		{2, 7, even(0, 64), api.ErrMany},
		{1, 7, list(0), api.ErrMany},
		{3, 4, even(0, 64), api.ErrMany},
		{4, 4, even(9, 3), api.ErrMany},
		{5, 0, nil, api.ErrArg},
		{0, 1, list(0), api.ErrArg},
	} {
		if e := rim.CheckRow(x.kinds, x.length, x.rim); e != x.e {
			t.Error(i, e)
		}
	}
}

// P4.7
func TestRow(t *testing.T) {
	for i, x := range []struct {
		kinds, length int
		row           []int
		e             api.Errno
	}{
		{2, 3, list(0, 0, 0, 1, 0, 1, 1, 1), api.OK},
		{2, 1, list(0, 1), api.OK},
		{2, 2, list(0, 0, 1, 1), api.OK},
		{2, 4, list(0, 0, 0, 0, 1, 0, 0, 1, 1, 0, 1, 0, 1, 1, 1, 1), api.OK},
		{3, 2, list(0, 0, 1, 0, 2, 1, 1, 2, 2), api.OK},
		{4, 1, list(0, 1, 2, 3), api.OK},
		{1, 1, list(0), api.OK},
		{1, 6, list(0), api.OK},
		{2, 7, nil, api.ErrMany},
		{1, 7, nil, api.ErrMany},
		{2, 0, nil, api.ErrMany},
		{2, -1, nil, api.ErrMany},
		{3, 4, nil, api.ErrMany},
		{4, 4, nil, api.ErrMany},
		{4, 6, nil, api.ErrMany},
		{5, 1, nil, api.ErrArg},
		{0, 0, nil, api.ErrArg},
	} {
		if row, e := rim.Row(x.kinds, x.length); !slices.Equal(row, x.row) || e != x.e {
			t.Error(i, row, e)
		}
	}
	for _, x := range rowLengths() {
		if row := mustRow(t, x[0], x[1]); len(row) != power(x[0], x[1]) || rim.CheckRow(x[0], x[1], row) != api.OK {
			t.Error(x, row)
		}
	}
}

// P4.8
func TestFind(t *testing.T) {
	for i, x := range []struct {
		kinds     int
		rim, list []int
		at        int
		e         api.Errno
	}{
		{2, chapterR(), list(0, 0, 1), 3, api.OK},
		{2, chapterR(), list(1, 1), 0, api.ErrNone},
		{2, chapterR(), list(1, 0, 1, 0, 0, 1), 0, api.ErrRange},
		{2, chapterR(), chapterR(), 0, api.OK},
		{2, chapterR(), list(0, 0, 1, 0, 1), 3, api.OK},
		{2, chapterR(), list(0, 1, 0, 1, 0), 4, api.OK},
		{2, chapterR(), list(0), 1, api.OK},
		{2, chapterR(), list(0, 1), 1, api.OK},
		{2, chapterR(), list(0, 1, 0, 1), 4, api.OK},
		{3, chapterR(), list(2), 0, api.ErrNone},
		{2, chapterS(), list(1, 0, 1, 0), 1, api.OK},
		{2, chapterS(), list(0, 1, 0, 1, 0), 0, api.ErrRange},
		{4, list(3), list(3), 0, api.OK},
		{4, list(3), list(2), 0, api.ErrNone},
		{2, append(even(0, 63), 1), append(list(1), even(0, 63)...), 63, api.OK},
		{2, chapterR(), nil, 0, api.ErrMany},
		{2, chapterR(), even(0, 65), 0, api.ErrMany},
		{2, chapterR(), even(2, 6), 0, api.ErrRange},
		{2, chapterR(), list(2), 0, api.ErrRange},
		{2, chapterR(), list(0, -1), 0, api.ErrRange},
		{2, nil, list(2), 0, api.ErrMany},
		{2, list(2), nil, 0, api.ErrRange},
		{5, nil, nil, 0, api.ErrArg},
	} {
		if at, e := rim.Find(x.kinds, x.rim, x.list); at != x.at || e != x.e {
			t.Error(i, at, e)
		}
	}
}
