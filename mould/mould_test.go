package mould_test

import (
	"slices"
	"testing"

	"porringer/api"
	"porringer/mould"
)

// The tests of this file are those of the promises P2.1 to P2.7: the chapter's examples, its limits and its errors.

// P2.1
func TestCheckBook(t *testing.T) {
	fifteen := fullBook()
	fifteen.Wants = append(fifteen.Wants, api.MouldWant{})
	for i, x := range []struct {
		b    api.MouldBook
		want api.Errno
	}{
		{chapterB(), api.OK},
		{chapterC(), api.OK},
		{fullBook(), api.OK},
		{book(1, 1), api.OK},
		{book(6, 1), api.OK},
		{book(1, 6), api.OK},
		{book(0, 1), api.ErrMany},
		{book(1, 0), api.ErrMany},
		{book(7, 1), api.ErrMany},
		{book(1, 7), api.ErrMany},
		{book(-1, 1), api.ErrMany},
		{book(1, -1), api.ErrMany},
		{fifteen, api.ErrMany},
		{api.MouldBook{}, api.ErrMany},
		{book(3, 2, 2, 1), api.OK},
		{book(3, 2, 3, 1), api.ErrRange},
		{book(3, 2, 2, 2), api.ErrRange},
		{book(3, 2, -1, 0), api.ErrRange},
		{book(3, 2, 0, -1), api.ErrRange},
		{book(3, 2, 0, 0, 2, 1, 3, 0), api.ErrRange},
	} {
		if e := mould.CheckBook(x.b); e != x.want {
			t.Error(i, e)
		}
		if _, _, e := mould.Loads(x.b); e != x.want {
			t.Error(i, e)
		}
	}
}

// P2.1
func TestLoads(t *testing.T) {
	for i, x := range []struct {
		b             api.MouldBook
		shops, moulds []int
	}{
		{chapterB(), list(2, 2, 1), list(2, 3, 0)},
		{chapterC(), list(1, 1, 2), list(2, 2)},
		{fullBook(), list(3, 2, 2, 3, 2, 2), list(3, 2, 2, 3, 2, 2)},
		{book(2, 3), list(0, 0), list(0, 0, 0)},
		{book(6, 1, 5, 0, 5, 0), list(0, 0, 0, 0, 0, 2), list(2)},
		{book(1, 6, 0, 5, 0, 5, 0, 0), list(3), list(1, 0, 0, 0, 0, 2)},
	} {
		if shops, moulds, e := mould.Loads(x.b); !slices.Equal(shops, x.shops) || !slices.Equal(moulds, x.moulds) || e != api.OK {
			t.Error(i, shops, moulds, e)
		}
	}
}

// P2.2
func TestCheckDays(t *testing.T) {
	for i, x := range []struct {
		b    api.MouldBook
		days []int
		many int
		want api.Errno
	}{
		{chapterB(), list(0, 1, 1, 0, 2), 3, api.OK},
		{chapterB(), list(4, 1, 1, 4, 2), 3, api.OK},
		{chapterB(), list(0, 1, 1, 0, 1), 0, api.ErrMould},
		{chapterB(), list(0, 1, 1, 0), 0, api.ErrEqual},
		{chapterB(), list(0, 1, 1, 0, 2, 3), 0, api.ErrEqual},
		{chapterB(), list(0, 1, 1, 0, 14), 0, api.ErrRange},
		{chapterB(), list(0, 1, 1, 0, 13), 3, api.OK},
		{chapterB(), list(-1, 1, 1, 0, 2), 0, api.ErrRange},
		{chapterB(), list(0, 0, 1, 2, 3), 0, api.ErrMould},
		{chapterB(), list(0, 1, 0, 2, 3), 0, api.ErrMould},
		{chapterB(), list(0, 1, 2, 3, 4), 5, api.OK},
		{book(1, 1, 0, 0, 0, 0), list(3, 3), 0, api.ErrMould},
		{book(1, 1, 0, 0, 0, 0), list(3, 2), 2, api.OK},
		{book(2, 2), nil, 0, api.OK},
		{book(2, 2), list(0), 0, api.ErrEqual},
	} {
		if many, e := mould.CheckDays(x.b, x.days); many != x.many || e != x.want {
			t.Error(i, many, e)
		}
	}
}

// P2.3
func TestFewestAndDays(t *testing.T) {
	for i, x := range []struct {
		b      api.MouldBook
		fewest int
		days   []int
	}{
		{chapterB(), 3, list(0, 1, 1, 0, 2)},
		{chapterC(), 2, list(0, 1, 0, 1)},
		{book(2, 2), 0, nil},
		{book(6, 6, 5, 5), 1, list(0)},
		{book(1, 1, slices.Repeat(list(0, 0), 14)...), 14, list(0, 1, 2, 3, 4, 5, 6, 7, 8, 9, 10, 11, 12, 13)},
		{book(3, 3, 0, 0, 1, 1, 2, 2), 1, list(0, 0, 0)},
		{fullBook(), 3, list(0, 0, 0, 0, 0, 0, 1, 1, 1, 1, 1, 1, 2, 2)},
		// The second want would have day 0 if each took the first one that is free; the fourth one would need day 2 then.
		{book(2, 3, 0, 0, 1, 1, 0, 2, 1, 2), 2, list(0, 1, 1, 0)},
		{deepBook(), 5, list(0, 1, 2, 3, 0, 0, 0, 1, 1, 1, 2, 3, 4, 0)},
	} {
		if fewest, e := mould.Fewest(x.b); fewest != x.fewest || e != api.OK {
			t.Error(i, fewest, e)
		}
		if days, e := mould.Days(x.b); !slices.Equal(days, x.days) || e != api.OK {
			t.Error(i, days, e)
		}
	}
}

// P2.4
func TestChainAndSwap(t *testing.T) {
	b, days := chapterB(), list(0, 1, 1, 0, 2)
	path := book(3, 3, 0, 0, 0, 1, 1, 1, 1, 2, 2, 2)
	for i, x := range []struct {
		b              api.MouldBook
		days           []int
		want, day      int
		chain, swapped []int
		e              api.Errno
	}{
		{b, days, 0, 1, list(0, 1, 2, 3), list(1, 0, 0, 1, 2), api.OK},
		{b, days, 4, 1, list(1, 4), list(0, 2, 1, 0, 1), api.OK},
		{b, days, 1, 2, list(1, 4), list(0, 2, 1, 0, 1), api.OK},
		{b, days, 4, 3, list(4), list(0, 1, 1, 0, 3), api.OK},
		{b, days, 4, 13, list(4), list(0, 1, 1, 0, 13), api.OK},
		{b, days, 4, 0, list(3, 4), list(0, 1, 1, 2, 0), api.OK},
		{b, days, 3, 2, list(3, 4), list(0, 1, 1, 2, 0), api.OK},
		{b, days, 0, 2, list(0), list(2, 1, 1, 0, 2), api.OK},
		{path, list(5, 6, 5, 6, 5), 4, 6, list(0, 1, 2, 3, 4), list(6, 5, 6, 5, 6), api.OK},
		{path, list(5, 6, 7, 6, 5), 4, 6, list(3, 4), list(5, 6, 7, 5, 6), api.OK},
		{path, list(5, 6, 7, 6, 5), 2, 6, list(1, 2, 3), list(5, 7, 6, 7, 5), api.OK},
		{b, days, 4, 2, nil, nil, api.ErrRule},
		{b, days, 0, 14, nil, nil, api.ErrRange},
		{b, days, 0, -1, nil, nil, api.ErrRange},
		{b, days, 5, 0, nil, nil, api.ErrArg},
		{b, days, -1, 0, nil, nil, api.ErrArg},
		{b, days, 5, 14, nil, nil, api.ErrArg},
		{book(1, 1), nil, 0, 0, nil, nil, api.ErrArg},
		{b, list(0, 1, 1, 0), 5, 14, nil, nil, api.ErrEqual},
		{b, list(0, 1, 1, 0, 14), 5, 14, nil, nil, api.ErrRange},
		{b, list(0, 1, 1, 0, 1), 5, 14, nil, nil, api.ErrMould},
	} {
		if chain, e := mould.Chain(x.b, x.days, x.want, x.day); !slices.Equal(chain, x.chain) || e != x.e {
			t.Error(i, chain, e)
		}
		if swapped, e := mould.Swap(x.b, x.days, x.want, x.day); !slices.Equal(swapped, x.swapped) || e != x.e {
			t.Error(i, swapped, e)
		}
	}
}

// P2.5
func TestCheckList(t *testing.T) {
	for i, x := range []struct {
		b     api.MouldBook
		wants []int
		e     api.Errno
	}{
		{chapterB(), list(0, 3), api.OK},
		{chapterB(), list(0, 1), api.ErrMould},
		{chapterB(), list(3, 0), api.ErrRange},
		{chapterB(), nil, api.OK},
		{chapterB(), list(4), api.OK},
		{chapterB(), list(5), api.ErrRange},
		{chapterB(), list(-1, 4), api.ErrRange},
		{chapterB(), list(0, 0), api.ErrRange},
		{chapterB(), list(0, 1, 5), api.ErrRange},
		{chapterB(), list(0, 3, 4), api.ErrMould},
		{chapterB(), list(0, 2), api.ErrMould},
		{book(1, 1), nil, api.OK},
		{book(1, 1), list(0), api.ErrRange},
		{fullBook(), list(0, 1, 2, 3, 4, 5), api.OK},
		{fullBook(), list(0, 1, 2, 3, 4, 5, 13), api.ErrMould},
	} {
		if e := mould.CheckList(x.b, x.wants); e != x.e {
			t.Error(i, e)
		}
	}
}

// P2.5
func TestList(t *testing.T) {
	for i, x := range []struct {
		b     api.MouldBook
		wants []int
	}{
		{chapterB(), list(0, 3)},
		{chapterC(), list(0, 2)},
		{fullBook(), list(0, 1, 2, 3, 4, 5)},
		{book(2, 2), nil},
		{book(1, 1, 0, 0, 0, 0), list(0)},
		{book(2, 2, 0, 0, 0, 1, 1, 0), list(1, 2)},
		// As long are 1 2 4, and then 0 3, 1 2 and 1 3.
		{book(3, 3, 0, 0, 0, 1, 1, 0, 1, 1, 2, 2), list(0, 3, 4)},
		{book(3, 3, 0, 0, 1, 0, 2, 1, 1, 1), list(0, 2)},
	} {
		if wants, e := mould.List(x.b); !slices.Equal(wants, x.wants) || e != api.OK {
			t.Error(i, wants, e)
		}
	}
}

// P2.6
func TestCheckCover(t *testing.T) {
	for i, x := range []struct {
		b             api.MouldBook
		shops, moulds []int
		many          int
		e             api.Errno
	}{
		{chapterB(), nil, list(0, 1), 2, api.OK},
		{chapterB(), list(0), list(0), 0, api.ErrSum},
		{chapterB(), list(0, 1, 2), nil, 3, api.OK},
		{chapterB(), list(0, 1), list(1), 3, api.OK},
		{chapterB(), list(0, 1, 2), list(0, 1, 2), 6, api.OK},
		{chapterB(), nil, nil, 0, api.ErrSum},
		{chapterB(), list(0, 1, 3), nil, 0, api.ErrRange},
		{chapterB(), nil, list(0, 1, 3), 0, api.ErrRange},
		{chapterB(), list(-1), list(0, 1), 0, api.ErrRange},
		{chapterB(), nil, list(-1, 0, 1), 0, api.ErrRange},
		{chapterB(), list(1, 1), list(0, 1), 0, api.ErrRange},
		{chapterB(), nil, list(1, 0), 0, api.ErrRange},
		{chapterC(), list(2), list(0), 2, api.OK},
		{chapterC(), list(0), list(1), 0, api.ErrSum},
		{chapterC(), nil, list(0, 1, 2), 0, api.ErrRange},
		{book(1, 1), nil, nil, 0, api.OK},
		{book(1, 1), list(0), list(0), 2, api.OK},
		{fullBook(), list(0, 1, 2, 3, 4, 5), list(0, 1, 2, 3, 4, 5), 12, api.OK},
	} {
		if many, e := mould.CheckCover(x.b, x.shops, x.moulds); many != x.many || e != x.e {
			t.Error(i, many, e)
		}
	}
}

// P2.6
func TestCover(t *testing.T) {
	for i, x := range []struct {
		b    api.MouldBook
		many int
	}{
		{chapterB(), 2},
		{chapterC(), 2},
		{fullBook(), 6},
		{book(2, 2), 0},
		{book(6, 6, 0, 0, 1, 0, 2, 0, 3, 1, 3, 2, 3, 3), 2},
	} {
		shops, moulds, e := mould.Cover(x.b)
		if many, bad := mould.CheckCover(x.b, shops, moulds); many != x.many || bad != api.OK || e != api.OK {
			t.Error(i, shops, moulds, e)
		}
	}
}

// P2.7
func TestCheckShort(t *testing.T) {
	alone := book(4, 2, 0, 1, 2, 1, 3, 1)
	for i, x := range []struct {
		b     api.MouldBook
		shops []int
		few   int
		e     api.Errno
	}{
		{chapterB(), list(0, 1, 2), 1, api.OK},
		{chapterB(), list(0, 1), 0, api.ErrSum},
		{chapterB(), list(2), 0, api.ErrSum},
		{chapterC(), list(0, 1), 1, api.OK},
		{chapterC(), nil, 0, api.ErrRange},
		{chapterC(), list(0, 1, 2), 1, api.OK},
		{chapterC(), list(0, 2), 0, api.ErrSum},
		{chapterC(), list(0, 3), 0, api.ErrRange},
		{chapterC(), list(-1, 0), 0, api.ErrRange},
		{chapterC(), list(1, 0), 0, api.ErrRange},
		{chapterC(), list(1, 1), 0, api.ErrRange},
		{alone, list(0, 2, 3), 2, api.OK},
		{alone, list(0, 1, 2, 3), 0, api.ErrRule},
		{alone, list(1), 0, api.ErrRule},
		{alone, list(1, 4), 0, api.ErrRange},
		{book(2, 2, 0, 0, 0, 1), list(0), 0, api.ErrSum},
		{book(6, 1, 0, 0, 1, 0, 2, 0, 3, 0, 4, 0, 5, 0), list(0, 1, 2, 3, 4, 5), 5, api.OK},
	} {
		if few, e := mould.CheckShort(x.b, x.shops); few != x.few || e != x.e {
			t.Error(i, few, e)
		}
	}
}

// P2.7
func TestShort(t *testing.T) {
	for i, x := range []struct {
		b     api.MouldBook
		shops []int
		e     api.Errno
	}{
		{chapterB(), list(0, 1, 2), api.OK},
		{chapterC(), list(0, 1), api.OK},
		{fullBook(), nil, api.ErrNone},
		{book(3, 3), nil, api.ErrNone},
		{book(3, 2, 0, 0, 2, 1), nil, api.ErrNone},
		{book(4, 2, 1, 1, 3, 1), list(1, 3), api.OK},
	} {
		if shops, e := mould.Short(x.b); !slices.Equal(shops, x.shops) || e != x.e {
			t.Error(i, shops, e)
		}
	}
}
