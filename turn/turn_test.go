package turn_test

import (
	"math"
	"slices"
	"testing"

	"porringer/api"
	"porringer/turn"
)

// The tests of this file are those of the promises P9.1 to P9.7: the chapter's examples, its limits and its errors.

// P9.1
func TestCheckCodeAndOrder(t *testing.T) {
	for i, x := range []struct {
		shops int
		code  []int
		order []int
		e     api.Errno
	}{
		{5, list(2, 2, 2, 0, 0), list(2, 0, 4, 1, 3), api.OK},
		{5, list(5, 0, 0, 0, 0), nil, api.ErrRange},
		{5, list(0, 0, 0, 0, 0), list(0, 1, 2, 3, 4), api.OK},
		{5, list(4, 3, 2, 1, 0), list(4, 3, 2, 1, 0), api.OK},
		{5, list(4, 0, 0, 0, 0), list(4, 0, 1, 2, 3), api.OK},
		{5, list(1, 3, 1, 1, 0), list(1, 0, 3, 2, 4), api.OK},
		{5, list(4, 4, 0, 0, 0), nil, api.ErrRange},
		{5, list(0, 0, 3, 0, 0), nil, api.ErrRange},
		{5, list(0, 0, 0, 2, 0), nil, api.ErrRange},
		{5, list(0, 0, 0, 0, 1), nil, api.ErrRange},
		{5, list(0, 0, 0, 0, -1), nil, api.ErrRange},
		{5, list(-1, 0, 0, 0, 0), nil, api.ErrRange},
		{5, list(math.MaxInt, 0, 0, 0, 0), nil, api.ErrRange},
		{5, list(0, math.MinInt, 0, 0, 0), nil, api.ErrRange},
		{5, list(0, 0, 0, 0), nil, api.ErrEqual},
		{5, list(0, 0, 0, 0, 0, 0), nil, api.ErrEqual},
		{5, list(5, 0, 0, 0), nil, api.ErrEqual},
		{5, nil, nil, api.ErrEqual},
		{1, list(0), list(0), api.OK},
		{1, list(1), nil, api.ErrRange},
		{1, nil, nil, api.ErrEqual},
		{2, list(0, 0), list(0, 1), api.OK},
		{2, list(1, 0), list(1, 0), api.OK},
		{12, list(11, 10, 9, 8, 7, 6, 5, 4, 3, 2, 1, 0), list(11, 10, 9, 8, 7, 6, 5, 4, 3, 2, 1, 0), api.OK},
		{12, list(11, 11, 9, 8, 7, 6, 5, 4, 3, 2, 1, 0), nil, api.ErrRange},
		{12, list(1, 1, 1, 1, 1, 1, 1, 1, 1, 1, 1, 0), list(1, 3, 5, 7, 9, 11, 2, 6, 10, 4, 0, 8), api.OK},
		{13, make([]int, 13), nil, api.ErrMany},
		{0, nil, nil, api.ErrMany},
		{-1, nil, nil, api.ErrMany},
		{0, list(0), nil, api.ErrMany},
		{13, list(-1), nil, api.ErrMany},
		{math.MaxInt, nil, nil, api.ErrMany},
		{math.MinInt, nil, nil, api.ErrMany},
	} {
		if e := turn.CheckCode(x.shops, x.code); e != x.e {
			t.Error(i, e)
		}
		if order, e := turn.Order(x.shops, x.code); !slices.Equal(order, x.order) || e != x.e {
			t.Error(i, order, e)
		}
	}
}

// P9.2
func TestCode(t *testing.T) {
	for i, x := range []struct {
		order []int
		code  []int
		e     api.Errno
	}{
		{list(2, 0, 4, 1, 3), list(2, 2, 2, 0, 0), api.OK},
		{list(0, 0), nil, api.ErrRule},
		{list(0), list(0), api.OK},
		{list(0, 1), list(0, 0), api.OK},
		{list(1, 0), list(1, 0), api.OK},
		{list(1, 0, 3, 2, 4), list(1, 3, 1, 1, 0), api.OK},
		{list(0, 1, 2, 4, 3), list(0, 0, 0, 1, 0), api.OK},
		{list(1, 3, 5, 7, 9, 11, 2, 6, 10, 4, 0, 8), list(1, 1, 1, 1, 1, 1, 1, 1, 1, 1, 1, 0), api.OK},
		{list(11, 10, 9, 8, 7, 6, 5, 4, 3, 2, 1, 0), list(11, 10, 9, 8, 7, 6, 5, 4, 3, 2, 1, 0), api.OK},
		{nil, nil, api.ErrMany},
		{list(12, 11, 10, 9, 8, 7, 6, 5, 4, 3, 2, 1, 0), nil, api.ErrMany},
		{make([]int, 13), nil, api.ErrMany},
		{slices.Repeat(list(-1), 13), nil, api.ErrMany},
		{list(1), nil, api.ErrRange},
		{list(-1), nil, api.ErrRange},
		{list(0, 2), nil, api.ErrRange},
		{list(0, 0, 3), nil, api.ErrRange},
		{list(0, 0, -1), nil, api.ErrRange},
		{list(0, math.MaxInt), nil, api.ErrRange},
		{list(math.MinInt, 0), nil, api.ErrRange},
		{list(0, 2, 2), nil, api.ErrRule},
		{list(2, 0, 2), nil, api.ErrRule},
		{list(0, 1, 2, 3, 4, 5, 6, 7, 8, 9, 10, 0), nil, api.ErrRule},
	} {
		if code, e := turn.Code(x.order); !slices.Equal(code, x.code) || e != x.e {
			t.Error(i, code, e)
		}
	}
}

// P9.3
func TestRoundLastAndWhen(t *testing.T) {
	for i, x := range []struct {
		shops int
		step  int64
		order []int
		e     api.Errno
	}{
		{5, 3, list(2, 0, 4, 1, 3), api.OK},
		{5, 1, list(0, 1, 2, 3, 4), api.OK},
		{5, 2, list(1, 3, 0, 4, 2), api.OK},
		{5, 0, nil, api.ErrArg},
		{5, -1, nil, api.ErrArg},
		{5, math.MinInt64, nil, api.ErrArg},
		{5, math.MaxInt64, nil, api.ErrArg},
		{5, 1<<40 + 1, nil, api.ErrArg},
		// 2^40 - 1 leaves the rests 0, 3, 0, 1 and 0 by 5, 4, 3, 2 and 1.
		{5, 1 << 40, list(0, 4, 1, 3, 2), api.OK},
		{5, 60, list(4, 3, 2, 1, 0), api.OK},
		{5, 61, list(0, 1, 2, 3, 4), api.OK},
		{1, 1, list(0), api.OK},
		{1, 1 << 40, list(0), api.OK},
		{2, 1, list(0, 1), api.OK},
		{2, 1 << 40, list(1, 0), api.OK},
		{12, 2, list(1, 3, 5, 7, 9, 11, 2, 6, 10, 4, 0, 8), api.OK},
		{12, 27720, list(11, 10, 9, 8, 7, 6, 5, 4, 3, 2, 1, 0), api.OK},
		{0, 1, nil, api.ErrMany},
		{0, 0, nil, api.ErrMany},
		{13, 1, nil, api.ErrMany},
		{13, 1<<40 + 1, nil, api.ErrMany},
	} {
		order, e := turn.Round(x.shops, x.step)
		if !slices.Equal(order, x.order) || e != x.e {
			t.Error(i, order, e)
		}
		last := 0
		if x.e == api.OK {
			last = x.order[x.shops-1]
		}
		if got, e := turn.Last(x.shops, x.step); got != last || e != x.e {
			t.Error(i, got, e)
		}
		for shop := range max(x.shops, 1) {
			at := max(slices.Index(x.order, shop), 0)
			if got, e := turn.When(x.shops, x.step, shop); got != at || e != x.e {
				t.Error(i, shop, got, e)
			}
		}
		f := x.e
		if f == api.OK {
			f = api.ErrRange
		}
		for _, shop := range list(-1, x.shops, 12, math.MaxInt, math.MinInt) {
			if at, e := turn.When(x.shops, x.step, shop); at != 0 || e != f {
				t.Error(i, shop, at, e)
			}
		}
	}
	if at, e := turn.When(5, 3, 4); at != 2 || e != api.OK {
		t.Error(at, e)
	}
}

// P9.4
func TestFind(t *testing.T) {
	for i, x := range []struct {
		shops        int
		begun        []int
		step, period int64
		e            api.Errno
	}{
		{5, list(2, 0, 4, 1, 3), 3, 60, api.OK},
		{5, list(2), 3, 5, api.OK},
		{5, list(2, 3), 13, 20, api.OK},
		{5, nil, 1, 1, api.OK},
		{5, list(0, 1, 2, 4, 3), 0, 0, api.ErrNone},
		{5, list(0, 1, 2, 4), 0, 0, api.ErrNone},
		{5, list(0, 1, 2), 1, 60, api.OK},
		{5, list(2, 0, 4, 1), 3, 60, api.OK},
		{5, list(4, 3, 2, 1, 0), 60, 60, api.OK},
		{5, list(4), 5, 5, api.OK},
		{1, nil, 1, 1, api.OK},
		{1, list(0), 1, 1, api.OK},
		{2, list(0), 1, 2, api.OK},
		{2, list(1), 2, 2, api.OK},
		{2, list(1, 0), 2, 2, api.OK},
		// By 4 and by 2 both rests are odd, or none is.
		{4, list(1, 0, 2), 0, 0, api.ErrNone},
		{4, list(1, 0, 3), 6, 12, api.OK},
		{4, list(1, 3, 2), 2, 12, api.OK},
		{12, nil, 1, 1, api.OK},
		{12, list(11), 12, 12, api.OK},
		{12, list(11, 10), 132, 132, api.OK},
		{12, list(11, 10, 9, 8, 7, 6, 5, 4, 3, 2, 1, 0), 27720, 27720, api.OK},
		{12, list(1, 3, 5, 7, 9, 11, 2, 6, 10, 4, 0, 8), 2, 27720, api.OK},
		{12, list(0, 1, 2, 3, 4, 5, 6, 7, 8, 9, 11, 10), 0, 0, api.ErrNone},
		{0, nil, 0, 0, api.ErrMany},
		{13, nil, 0, 0, api.ErrMany},
		{13, list(0), 0, 0, api.ErrMany},
		{0, list(0, 0), 0, 0, api.ErrMany},
		{math.MinInt, nil, 0, 0, api.ErrMany},
		{math.MaxInt, nil, 0, 0, api.ErrMany},
		{2, list(0, 1, 2), 0, 0, api.ErrMany},
		{2, list(0, 0, 0), 0, 0, api.ErrMany},
		{2, list(-1, 5, 9), 0, 0, api.ErrMany},
		{5, list(5), 0, 0, api.ErrRange},
		{5, list(-1), 0, 0, api.ErrRange},
		{5, list(0, 0, 5), 0, 0, api.ErrRange},
		{5, list(0, 0, -1), 0, 0, api.ErrRange},
		{5, list(math.MaxInt), 0, 0, api.ErrRange},
		{5, list(math.MinInt), 0, 0, api.ErrRange},
		{5, list(0, 0), 0, 0, api.ErrRule},
		{5, list(0, 1, 2, 4, 0), 0, 0, api.ErrRule},
		{12, list(3, 4, 3), 0, 0, api.ErrRule},
	} {
		if step, period, e := turn.Find(x.shops, x.begun); step != x.step || period != x.period || e != x.e {
			t.Error(i, step, period, e)
		}
		one, two, e := turn.Clash(x.shops, x.begun)
		switch {
		case x.e == api.OK && (one != 0 || two != 0 || e != api.ErrNone):
			t.Error(i, one, two, e)
		case x.e == api.ErrNone && (one >= two || e != api.OK):
			t.Error(i, one, two, e)
		case x.e != api.OK && x.e != api.ErrNone && (one != 0 || two != 0 || e != x.e):
			t.Error(i, one, two, e)
		}
		if e := turn.CheckClash(x.shops, x.begun, 1, 0); x.e != api.OK && x.e != api.ErrNone && e != x.e {
			t.Error(i, e)
		}
	}
}

// P9.5
func TestClash(t *testing.T) {
	for i, x := range []struct {
		shops    int
		begun    []int
		one, two int
		e        api.Errno
	}{
		{5, list(0, 1, 2, 4, 3), 1, 3, api.OK},
		{5, list(2, 3), 0, 0, api.ErrNone},
		{5, nil, 0, 0, api.ErrNone},
		{5, list(2), 0, 0, api.ErrNone},
		{5, list(0, 1, 2, 4), 1, 3, api.OK},
		{5, list(0, 1, 2), 0, 0, api.ErrNone},
		{1, list(0), 0, 0, api.ErrNone},
		{4, list(1, 0, 3), 0, 0, api.ErrNone},
		{4, list(1, 0, 2), 0, 2, api.OK},
		{6, list(0, 1, 2, 4), 0, 3, api.OK},
		{6, list(0, 1, 3), 0, 2, api.OK},
		// 12 and 9 shops say other rests by 3, and so do 9 and 6.
		{12, list(0, 1, 2, 4), 0, 3, api.OK},
		// So do the places 2 and 4.
		{12, list(0, 1, 3, 4, 5), 0, 2, api.OK},
		// So do the places 0 and 3.
		{12, list(0, 1, 3, 5), 0, 2, api.OK},
		// So do the places 2, 3 and 4 with the place 6.
		{12, list(0, 1, 2, 3, 4, 5, 7), 0, 6, api.OK},
		// So do the places 1 and 4.
		{10, list(0, 1, 2, 3, 6, 8), 0, 5, api.OK},
		{10, list(0, 1, 2, 3, 6), 1, 4, api.OK},
		{12, list(0, 1, 2, 3, 4, 5, 6, 7, 8, 9, 11, 10), 0, 10, api.OK},
		{11, list(0, 1, 2, 3, 4, 5, 6, 7, 8, 10, 9), 1, 9, api.OK},
		{12, list(11, 10, 9, 8, 7, 6, 5, 4, 3, 2, 1, 0), 0, 0, api.ErrNone},
	} {
		if one, two, e := turn.Clash(x.shops, x.begun); one != x.one || two != x.two || e != x.e {
			t.Error(i, one, two, e)
		}
		f := api.OK
		if x.e != api.OK {
			f = api.ErrSum
		}
		if e := turn.CheckClash(x.shops, x.begun, x.one, x.two); x.one < x.two && e != f {
			t.Error(i, e)
		}
	}
}

// P9.5
func TestCheckClash(t *testing.T) {
	begun := list(0, 1, 2, 4, 3)
	for i, x := range []struct {
		shops    int
		begun    []int
		one, two int
		e        api.Errno
	}{
		{5, begun, 1, 3, api.OK},
		{5, begun, 0, 3, api.ErrSum},
		{5, begun, 3, 1, api.ErrArg},
		{5, begun, 0, 1, api.ErrSum},
		{5, begun, 3, 4, api.ErrSum},
		{5, begun, 2, 3, api.ErrSum},
		{5, begun, 1, 1, api.ErrArg},
		{5, begun, 3, 3, api.ErrArg},
		{5, begun, 0, 5, api.ErrArg},
		{5, begun, 5, 6, api.ErrArg},
		{5, begun, -1, 3, api.ErrArg},
		{5, begun, -2, -1, api.ErrArg},
		{5, begun, 1, math.MaxInt, api.ErrArg},
		{5, begun, math.MinInt, 1, api.ErrArg},
		{5, begun, math.MaxInt, math.MinInt, api.ErrArg},
		{5, begun[:4], 1, 3, api.OK},
		{5, begun[:3], 1, 3, api.ErrArg},
		{5, begun[:3], 1, 2, api.ErrSum},
		{5, nil, 0, 1, api.ErrArg},
		{5, nil, 0, 0, api.ErrArg},
		{5, list(2), 0, 0, api.ErrArg},
		{1, list(0), 0, 0, api.ErrArg},
		// 12 and 9 shops, 12 and 10, 9 and 6, 12 and 6.
		{12, list(0, 1, 2, 4), 0, 3, api.OK},
		{12, list(0, 1, 3), 0, 2, api.OK},
		{12, list(0, 1, 2, 3, 4, 5, 7), 3, 6, api.OK},
		{12, list(0, 1, 2, 3, 4, 5, 7), 0, 6, api.OK},
		{12, list(0, 1, 2, 3, 4, 5, 7), 1, 6, api.ErrSum},
		{12, list(0, 1, 2, 3, 4, 5, 9), 3, 6, api.ErrSum},
		{12, list(0, 1, 2, 3, 4, 5, 9), 0, 6, api.OK},
		{12, list(0, 1, 2, 3, 4, 5, 9), 2, 6, api.OK},
		{12, list(0, 1, 2, 3, 4, 5, 9), 4, 6, api.OK},
		{0, begun, 1, 3, api.ErrMany},
		{13, begun, 3, 1, api.ErrMany},
		{4, begun, 3, 1, api.ErrMany},
		{5, list(0, 5), 3, 1, api.ErrRange},
		{5, list(0, -1, 0), 3, 1, api.ErrRange},
		{5, list(0, 0), 3, 1, api.ErrRule},
	} {
		if e := turn.CheckClash(x.shops, x.begun, x.one, x.two); e != x.e {
			t.Error(i, e)
		}
	}
}

// P9.6
func TestNumber(t *testing.T) {
	for i, x := range []struct {
		order  []int
		number int64
		e      api.Errno
	}{
		{list(2, 0, 4, 1, 3), 52, api.OK},
		{list(0, 1), 0, api.OK},
		{list(1, 0), 1, api.OK},
		{list(0), 0, api.OK},
		{list(0, 1, 2), 0, api.OK},
		{list(0, 2, 1), 1, api.OK},
		{list(1, 0, 2), 2, api.OK},
		{list(1, 2, 0), 3, api.OK},
		{list(2, 0, 1), 4, api.OK},
		{list(2, 1, 0), 5, api.OK},
		{list(0, 1, 2, 3, 4, 5, 6, 7, 8, 9, 10, 11), 0, api.OK},
		{list(1, 0, 2, 3, 4, 5, 6, 7, 8, 9, 10, 11), 39916800, api.OK},
		{list(11, 10, 9, 8, 7, 6, 5, 4, 3, 2, 1, 0), 479001599, api.OK},
		{nil, 0, api.ErrMany},
		{list(0, 1, 2, 3, 4, 5, 6, 7, 8, 9, 10, 11, 12), 0, api.ErrMany},
		{slices.Repeat(list(-1), 13), 0, api.ErrMany},
		{list(1), 0, api.ErrRange},
		{list(-1), 0, api.ErrRange},
		{list(0, 0, 3), 0, api.ErrRange},
		{list(1, 1, -1), 0, api.ErrRange},
		{list(1, math.MaxInt), 0, api.ErrRange},
		{list(math.MinInt, 1), 0, api.ErrRange},
		{list(0, 0), 0, api.ErrRule},
		{list(1, 0, 1), 0, api.ErrRule},
	} {
		if number, e := turn.Number(x.order); number != x.number || e != x.e {
			t.Error(i, number, e)
		}
		if order, e := turn.Numbered(len(x.order), x.number); x.e == api.OK && (!slices.Equal(order, x.order) || e != api.OK) {
			t.Error(i, order, e)
		}
	}
}

// P9.6
func TestNumbered(t *testing.T) {
	for i, x := range []struct {
		shops  int
		number int64
		order  []int
		e      api.Errno
	}{
		{5, 52, list(2, 0, 4, 1, 3), api.OK},
		{2, 2, nil, api.ErrArg},
		{2, 1, list(1, 0), api.OK},
		{2, -1, nil, api.ErrArg},
		{1, 0, list(0), api.OK},
		{1, 1, nil, api.ErrArg},
		{5, 119, list(4, 3, 2, 1, 0), api.OK},
		{5, 120, nil, api.ErrArg},
		{12, 479001599, list(11, 10, 9, 8, 7, 6, 5, 4, 3, 2, 1, 0), api.OK},
		{12, 479001600, nil, api.ErrArg},
		{12, math.MaxInt64, nil, api.ErrArg},
		{12, math.MinInt64, nil, api.ErrArg},
		{5, 1 << 32, nil, api.ErrArg},
		{0, 0, nil, api.ErrMany},
		{0, 1, nil, api.ErrMany},
		{13, 0, nil, api.ErrMany},
		{13, -1, nil, api.ErrMany},
		{math.MinInt, 0, nil, api.ErrMany},
		{math.MaxInt, 0, nil, api.ErrMany},
	} {
		if order, e := turn.Numbered(x.shops, x.number); !slices.Equal(order, x.order) || e != x.e {
			t.Error(i, order, e)
		}
	}
}

// P9.7
func TestWish(t *testing.T) {
	for i, x := range []struct {
		shops, shop int
		step        int64
		e           api.Errno
	}{
		{5, 3, 3, api.OK},
		{5, 0, 4, api.OK},
		{5, 5, 0, api.ErrRange},
		{5, -1, 0, api.ErrRange},
		{5, math.MaxInt, 0, api.ErrRange},
		{5, math.MinInt, 0, api.ErrRange},
		{5, 1, 5, api.OK},
		{5, 2, 2, api.OK},
		{5, 4, 1, api.OK},
		{1, 0, 1, api.OK},
		{1, 1, 0, api.ErrRange},
		{2, 0, 2, api.OK},
		{2, 1, 1, api.OK},
		{3, 0, 5, api.OK},
		{9, 3, 42, api.OK},
		{12, 3, 26, api.OK},
		{12, 11, 1, api.OK},
		{12, 12, 0, api.ErrRange},
		{0, 0, 0, api.ErrMany},
		{13, 0, 0, api.ErrMany},
		{13, -1, 0, api.ErrMany},
		{math.MinInt, 0, 0, api.ErrMany},
		{math.MaxInt, 0, 0, api.ErrMany},
	} {
		if step, e := turn.Wish(x.shops, x.shop); step != x.step || e != x.e {
			t.Error(i, step, e)
		}
	}
}
