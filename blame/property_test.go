package blame_test

import (
	"slices"
	"testing"

	"porringer/api"
	"porringer/blame"
)

// The tests of this file are those of the properties P6.9 to P6.15, and so of P2: each asks many books. Before them stand
// tests that hold results against what the definitions give, by other ways than the program's.

// askAll calls a check with all small books, and with many others.
func askAll(t *testing.T, many int, check func(t *testing.T, d *dice, b api.BlameBook)) {
	t.Helper()
	d := dice(2)
	everySmall(func(b api.BlameBook) {
		if !t.Failed() {
			check(t, &d, b)
			if t.Failed() {
				t.Log(b)
			}
		}
	})
	ask(t, many, check)
}

// P6.2, P6.5
func TestSetsByDefinition(t *testing.T) {
	many := map[api.Errno]int{}
	askAll(t, 400, func(t *testing.T, _ *dice, b api.BlameBook) {
		for _, set := range setsOf(b.Inns) {
			number, e := len(set), api.OK
			if missed := missedBy(b, set); missed >= 0 {
				number, e = missed, api.ErrBlame
			}
			if got, f := blame.CheckBlame(b, set); got != number || f != e {
				t.Error("CheckBlame", set, got, f)
			}
			checkLeft(t, b, set, e)
			if spare := spareOf(b, set); e == api.OK && len(spare) > 0 {
				number, e = spare[0], api.ErrRule
			}
			if got, f := blame.CheckTight(b, set); got != number || f != e {
				t.Error("CheckTight", set, got, f)
			}
			many[e]++
		}
	})
	if min(many[api.OK], many[api.ErrBlame], many[api.ErrRule]) < 1000 {
		t.Error("too few of one kind:", many)
	}
}

// checkLeft checks what Tight leaves of a set of which CheckBlame returns an error.
func checkLeft(t *testing.T, b api.BlameBook, set []int, e api.Errno) {
	t.Helper()
	var left []int
	if e == api.OK {
		left = slices.Clone(set)
		for inn := b.Inns - 1; inn >= 0; inn-- {
			if missedBy(b, without(left, inn)) < 0 {
				left = without(left, inn)
			}
		}
	}
	if got, f := blame.Tight(b, set); !slices.Equal(got, left) || f != e {
		t.Error("Tight", set, got, f)
	}
}

// P6.3
func TestFewestByDefinition(t *testing.T) {
	askAll(t, 600, func(t *testing.T, _ *dice, b api.BlameBook) {
		var want []int
		e := api.ErrBlame
		for _, set := range blamesOf(b) {
			if e != api.OK || len(set) < len(want) {
				want, e = set, api.OK
			}
		}
		if many, f := blame.Fewest(b); many != len(want) || f != e {
			t.Error("Fewest", many, f)
		}
		if set, f := blame.Blame(b); !slices.Equal(set, want) || f != e {
			t.Error("Blame", set, f)
		}
	})
}

// P6.4
func TestApartByDefinition(t *testing.T) {
	askAll(t, 300, func(t *testing.T, _ *dice, b api.BlameBook) {
		var longest []int
		for _, hires := range setsOf(len(b.Hires)) {
			e := api.ErrRule
			if areApart(b, hires) {
				e = api.OK
			}
			if got := blame.CheckApart(b, hires); got != e {
				t.Error("CheckApart", hires, got)
			}
			if e == api.OK && len(hires) > len(longest) {
				longest = hires
			}
		}
		if hires := mustApart(t, b); !slices.Equal(hires, longest) {
			t.Error("Apart", hires, longest)
		}
	})
}

// P6.5, P6.7, P6.8
func TestAllByDefinition(t *testing.T) {
	most := 0
	askAll(t, 1500, func(t *testing.T, _ *dice, b api.BlameBook) {
		tight := tightOf(b)
		most = max(most, len(tight))
		if all := mustAll(t, b); !same(all, tight) {
			t.Error("All", all, tight)
		}
		if dual := mustDual(t, b); !sameBook(dual, book(b.Inns, tight...)) {
			t.Error("Dual", dual, tight)
		}
		if core := mustCore(t, b); !sameBook(core, coreOf(b)) {
			t.Error("Core", core, coreOf(b))
		}
		for inn := range b.Inns {
			kind, e := kindOf(tight, inn), api.OK
			if len(tight) == 0 {
				kind, e = 0, api.ErrBlame
			}
			if got, f := blame.Kind(b, inn); got != kind || f != e {
				t.Error("Kind", inn, got, f)
			}
		}
	})
	if most <= api.MaxBlameHires {
		t.Error("no dual is too long for a book:", most)
	}
}

// P6.6
func TestForgottenByDefinition(t *testing.T) {
	many := map[api.Errno]int{}
	askAll(t, 1500, func(t *testing.T, d *dice, b api.BlameBook) {
		tight := tightOf(b)
		for range 4 {
			sets := d.sets(b, 1+d.upTo(2*len(tight)))
			var want []int
			e := api.ErrNone
			for _, set := range tight {
				if e != api.OK && forgets(sets, set) {
					want, e = set, api.OK
				}
			}
			many[e]++
			if set, f := blame.Forgotten(b, sets); !slices.Equal(set, want) || f != e {
				t.Error("Forgotten", sets, set, f)
			}
			if same(sets, tight) == (blame.CheckAll(b, sets) != api.OK) {
				t.Error("CheckAll", sets)
			}
		}
	})
	if min(many[api.OK], many[api.ErrNone]) < 500 {
		t.Error("too few of one kind:", many)
	}
}

// P6.9
func TestProved(t *testing.T) {
	askAll(t, 600, func(t *testing.T, _ *dice, b api.BlameBook) {
		fewest, none := blame.Fewest(b)
		for _, set := range setsOf(b.Inns) {
			many, e := blame.CheckBlame(b, set)
			if e != api.OK {
				continue
			}
			if many < len(mustApart(t, b)) || none != api.OK || many < fewest {
				t.Error(set, many, fewest, none)
			}
			if _, f := blame.CheckTight(b, set); many == fewest && f != api.OK {
				t.Error("not tight:", set, f)
			}
		}
	})
}

// P6.10
func TestEither(t *testing.T) {
	askAll(t, 1000, func(t *testing.T, d *dice, b api.BlameBook) {
		all := mustAll(t, b)
		for range 4 {
			var list [][]int
			most := d.upTo(3)
			for _, set := range all {
				if d.upTo(4) <= most {
					list = append(list, set)
				}
			}
			e := blame.CheckAll(b, list)
			forgotten, f := blame.Forgotten(b, list)
			if (e == api.OK) == (f == api.OK) || e != api.OK && e != api.ErrSum || f != api.OK && f != api.ErrNone {
				t.Error(list, e, forgotten, f)
			}
			if _, bad := blame.CheckTight(b, forgotten); f == api.OK && bad != api.OK {
				t.Error(list, forgotten, bad)
			}
		}
		if e := blame.CheckAll(b, all); e != api.OK {
			t.Error(all, e)
		}
		for _, set := range blamesOf(b) {
			left, e := blame.Tight(b, set)
			if !isIn(left, set) || !slices.ContainsFunc(all, func(one []int) bool { return slices.Equal(one, left) }) || e != api.OK {
				t.Error("Tight", set, left, e)
			}
		}
		for i, one := range all {
			for j, other := range all {
				if i != j && isIn(one, other) {
					t.Error("in another one:", one, other)
				}
			}
		}
	})
}

// P6.11
func TestDual(t *testing.T) {
	twice := 0
	askAll(t, 1000, func(t *testing.T, _ *dice, b api.BlameBook) {
		dual := mustDual(t, b)
		for _, set := range setsOf(b.Inns) {
			has := slices.ContainsFunc(b.Hires, func(hire []int) bool { return isIn(hire, set) })
			if has != (missedBy(dual, set) < 0) {
				t.Error(set, has, dual)
			}
		}
		if len(dual.Hires) > api.MaxBlameHires {
			if _, e := blame.Dual(dual); e != api.ErrMany {
				t.Error(dual, e)
			}
			return
		}
		twice++
		if again, core := mustDual(t, dual), mustCore(t, b); !sameBook(again, core) {
			t.Error(dual, again, core)
		}
	})
	if twice < 1000 {
		t.Error("too few with a dual that is valid:", twice)
	}
}

// P6.12
func TestSameBlames(t *testing.T) {
	askAll(t, 1000, func(t *testing.T, _ *dice, b api.BlameBook) {
		core := mustCore(t, b)
		for _, set := range setsOf(b.Inns) {
			_, e := blame.CheckBlame(b, set)
			if _, f := blame.CheckBlame(core, set); f != e {
				t.Error(core, set, e, f)
			}
		}
		if !same(mustAll(t, core), mustAll(t, b)) {
			t.Error(core, mustAll(t, core), mustAll(t, b))
		}
		if again := mustCore(t, core); !sameBook(again, core) {
			t.Error(core, again)
		}
	})
}

// P6.13
func TestMore(t *testing.T) {
	grown := 0
	ask(t, 1500, func(t *testing.T, d *dice, b api.BlameBook) {
		if len(b.Hires) == api.MaxBlameHires {
			return
		}
		more := b
		hire := d.some(b.Inns, 3)
		if len(hire) == 0 {
			hire = list(d.upTo(b.Inns - 1))
		}
		more.Hires = slices.Insert(cloned(b.Hires), d.upTo(len(b.Hires)), hire)
		for _, set := range setsOf(b.Inns) {
			_, e := blame.CheckBlame(b, set)
			if _, f := blame.CheckBlame(more, set); f == api.OK && e != api.OK {
				t.Error(more, set, e)
			}
		}
		before, e := blame.Fewest(b)
		after, f := blame.Fewest(more)
		if e != f || after < before || after > before+1 {
			t.Error(more, before, e, after, f)
		}
		grown += after - before
	})
	if grown < 100 {
		t.Error("too few that need more:", grown)
	}
}

// moved returns a hire with inns that are numbered from another one on.
func moved(hire []int, by int) []int {
	var other []int
	for _, inn := range hire {
		other = append(other, inn+by)
	}
	return other
}

// P6.14
func TestTogether(t *testing.T) {
	d := dice(3)
	for range 1000 {
		one, two := d.book(4, 5), d.book(4, 5)
		both := book(one.Inns+two.Inns, cloned(one.Hires)...)
		for _, hire := range two.Hires {
			both.Hires = slices.Insert(both.Hires, d.upTo(len(both.Hires)), moved(hire, one.Inns))
		}
		few, e := blame.Fewest(both)
		if hasBlame(both) && (few != mustFewest(t, one)+mustFewest(t, two) || e != api.OK) || !hasBlame(both) && e != api.ErrBlame {
			t.Error(one, two, few, e)
		}
		var tight [][]int
		for _, set := range mustAll(t, one) {
			for _, other := range mustAll(t, two) {
				tight = append(tight, slices.Concat(set, moved(other, one.Inns)))
			}
		}
		slices.SortFunc(tight, slices.Compare)
		if all := mustAll(t, both); !same(all, tight) {
			t.Error(one, two, all, tight)
		}
		if many := len(mustApart(t, both)); many != len(mustApart(t, one))+len(mustApart(t, two)) {
			t.Error(one, two, many)
		}
	}
}

// P6.15
func TestSure(t *testing.T) {
	many := map[int]int{}
	askAll(t, 1000, func(t *testing.T, _ *dice, b api.BlameBook) {
		if !hasBlame(b) {
			return
		}
		core := mustCore(t, b)
		for inn := range b.Inns {
			kind := mustKind(t, b, inn)
			many[kind]++
			alone := slices.ContainsFunc(b.Hires, func(hire []int) bool { return slices.Equal(hire, list(inn)) })
			if alone != (kind == api.BlameSure) {
				t.Error("sure", inn, kind)
			}
			inCore := slices.ContainsFunc(core.Hires, func(hire []int) bool { return slices.Contains(hire, inn) })
			if inCore == (kind == api.BlameNever) {
				t.Error("never", inn, kind, core)
			}
		}
	})
	if min(many[api.BlameNever], many[api.BlameMay], many[api.BlameSure]) < 500 {
		t.Error("too few of one kind:", many)
	}
}
