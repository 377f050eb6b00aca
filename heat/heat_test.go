package heat_test

import (
	"math"
	"slices"
	"strings"
	"testing"

	"porringer/api"
	"porringer/heat"
)

// The tests of this file are those of the promises P7.1 to P7.8: the chapter's examples, its limits and its errors.

// changed returns the mould M of which something is changed.
func changed(change func(m *api.HeatMould)) api.HeatMould {
	m := chapterM()
	change(&m)
	return m
}

// P7.1
func TestCheckMould(t *testing.T) {
	for i, x := range []struct {
		m api.HeatMould
		e api.Errno
	}{
		{chapterM(), api.OK},
		{chapterN(), api.OK},
		{slowMould(), api.OK},
		{coldMould(), api.OK},
		{oddMould(), api.OK},
		{mould(list(0), list(0), 0, 0), api.OK},
		{mould(list(1, 1), list(0, 1), 1, 1), api.OK},
		{changed(func(m *api.HeatMould) { m.Lo, m.Hi = 0, 7 }), api.OK},
		{changed(func(m *api.HeatMould) { m.Lo = m.Hi }), api.OK},
		{api.HeatMould{}, api.ErrMany},
		{mould(nil, list(0), 0, 0), api.ErrMany},
		{mould(slices.Repeat(list(16), 17), slices.Repeat(list(0), 17), 0, 0), api.ErrMany},
		{mould(slices.Repeat(list(17), 17), list(-1), 9, 3), api.ErrMany},
		{mould(make([]int, 1000), nil, 0, 0), api.ErrMany},
		{changed(func(m *api.HeatMould) { m.Waits = m.Waits[:7] }), api.ErrEqual},
		{changed(func(m *api.HeatMould) { m.Waits = append(m.Waits, 4) }), api.ErrEqual},
		{changed(func(m *api.HeatMould) { m.Waits = nil }), api.ErrEqual},
		{changed(func(m *api.HeatMould) { m.Waits, m.Casts[0], m.Lo = list(-1), 8, 6 }), api.ErrEqual},
		{mould(list(0), make([]int, 17), 0, 0), api.ErrEqual},
		{changed(func(m *api.HeatMould) { m.Casts[7] = 8 }), api.ErrRange},
		{changed(func(m *api.HeatMould) { m.Casts[0] = -1 }), api.ErrRange},
		{changed(func(m *api.HeatMould) { m.Casts[3] = math.MaxInt }), api.ErrRange},
		{changed(func(m *api.HeatMould) { m.Waits[0] = -1 }), api.ErrRange},
		{changed(func(m *api.HeatMould) { m.Waits[7] = 8 }), api.ErrRange},
		{changed(func(m *api.HeatMould) { m.Waits[5] = math.MinInt }), api.ErrRange},
		{changed(func(m *api.HeatMould) { m.Lo = -1 }), api.ErrRange},
		{changed(func(m *api.HeatMould) { m.Hi = 8 }), api.ErrRange},
		{changed(func(m *api.HeatMould) { m.Lo, m.Hi = 8, 8 }), api.ErrRange},
		{changed(func(m *api.HeatMould) { m.Hi = -1 }), api.ErrRange},
		{changed(func(m *api.HeatMould) { m.Casts[0], m.Waits[7] = 7, 8 }), api.ErrRange},
		{changed(func(m *api.HeatMould) { m.Waits[0], m.Hi = 1, 8 }), api.ErrRange},
		{changed(func(m *api.HeatMould) { m.Lo, m.Hi = 5, 4 }), api.ErrRule},
		{changed(func(m *api.HeatMould) { m.Casts[3] = 3 }), api.ErrRule},
		{changed(func(m *api.HeatMould) { m.Casts[0] = 4 }), api.ErrRule},
		{changed(func(m *api.HeatMould) { m.Casts[7] = 6 }), api.ErrRule},
		{changed(func(m *api.HeatMould) { m.Waits[3] = 0; m.Waits[2] = 1; m.Waits[4] = 0 }), api.ErrRule},
		{changed(func(m *api.HeatMould) { m.Waits[7] = 2 }), api.ErrRule},
		{changed(func(m *api.HeatMould) { m.Waits[0] = 1; m.Waits[1] = 1 }), api.ErrRule},
		{mould(list(0, 0), list(0, 0), 0, 0), api.ErrRule},
		{mould(list(1, 1), list(1, 1), 0, 0), api.ErrRule},
		{mould(list(0, 1, 1), list(0, 1, 2), 0, 0), api.ErrRule},
		{mould(list(0, 1, 2), list(0, 2, 2), 0, 0), api.ErrRule},
	} {
		if e := heat.CheckMould(x.m); e != x.e {
			t.Error(i, e)
		}
		if _, e := heat.Labels(x.m); e != x.e {
			t.Error(i, e)
		}
	}
}

// P7.2
func TestRun(t *testing.T) {
	for i, x := range []struct {
		m             api.HeatMould
		from          int
		plan          string
		behind, casts int
		e             api.Errno
	}{
		{chapterM(), 3, "ccw", 4, 2, api.OK},
		{chapterM(), 3, "ccc", 0, 0, api.ErrHeat},
		{chapterM(), 0, "ww", 0, 0, api.OK},
		{chapterM(), 3, "cx", 0, 0, api.ErrForm},
		{chapterM(), 8, "c", 0, 0, api.ErrArg},
		{chapterM(), -1, "c", 0, 0, api.ErrArg},
		{chapterM(), math.MaxInt, "", 0, 0, api.ErrArg},
		{chapterM(), math.MinInt, "", 0, 0, api.ErrArg},
		{chapterM(), 8, "x", 0, 0, api.ErrArg},
		{chapterM(), 7, "", 7, 0, api.OK},
		{chapterM(), 7, "w", 4, 0, api.OK},
		{chapterM(), 7, "c", 0, 0, api.ErrHeat},
		{chapterM(), 6, "c", 0, 0, api.ErrHeat},
		{chapterM(), 5, "c", 7, 1, api.OK},
		{chapterM(), 2, "c", 4, 1, api.OK},
		{chapterM(), 1, "c", 0, 0, api.ErrHeat},
		{chapterM(), 3, "ccwcwc", 6, 4, api.OK},
		{chapterM(), 3, "cccx", 0, 0, api.ErrForm},
		{chapterM(), 3, "C", 0, 0, api.ErrForm},
		{chapterM(), 3, "c w", 0, 0, api.ErrForm},
		{chapterM(), 3, "cw\n", 0, 0, api.ErrForm},
		{chapterM(), 3, "c\x00", 0, 0, api.ErrForm},
		{chapterM(), 3, "\xff", 0, 0, api.ErrForm},
		{chapterM(), 3, "wé", 0, 0, api.ErrForm},
		{chapterM(), 3, strings.Repeat("cw", 250), 3, 250, api.OK},
		{chapterM(), 3, strings.Repeat("cw", 250) + "c", 0, 0, api.ErrLong},
		{chapterM(), 3, strings.Repeat("c", 501), 0, 0, api.ErrLong},
		{chapterM(), 3, strings.Repeat("x", 501), 0, 0, api.ErrLong},
		{chapterM(), 3, strings.Repeat("c", 499) + "x", 0, 0, api.ErrForm},
		{chapterM(), 3, strings.Repeat("c", 500), 0, 0, api.ErrHeat},
		{chapterN(), 4, "c", 6, 1, api.OK},
		{chapterN(), 4, "cww", 6, 1, api.OK},
		{chapterN(), 4, "cwwc", 0, 0, api.ErrHeat},
		{mould(list(0), list(0), 0, 0), 0, strings.Repeat("c", 500), 0, 500, api.OK},
		{mould(list(0), list(0), 0, 0), 1, "", 0, 0, api.ErrArg},
		{slowMould(), 15, "wwwwwwwwwwwwwwwc", 15, 1, api.OK},
		{slowMould(), 16, "w", 0, 0, api.ErrArg},
	} {
		if behind, casts, e := heat.Run(x.m, x.from, x.plan); behind != x.behind || casts != x.casts || e != x.e {
			t.Error(i, behind, casts, e)
		}
	}
}

// P7.3
func TestFewestAndPlan(t *testing.T) {
	for i, x := range []struct {
		m           api.HeatMould
		from, casts int
		plan        string
		e           api.Errno
	}{
		{chapterM(), 3, 4, "ccwcwc", api.OK},
		{chapterM(), 6, 1, "wc", api.OK},
		{chapterM(), 1, 1, "", api.ErrHeat},
		{chapterM(), 6, 0, "", api.OK},
		{chapterM(), 0, 0, "", api.OK},
		{chapterM(), 0, 30, "", api.ErrHeat},
		{chapterM(), 0, 31, "", api.ErrArg},
		{chapterM(), 3, 31, "", api.ErrArg},
		{chapterM(), 3, -1, "", api.ErrArg},
		{chapterM(), 3, math.MaxInt, "", api.ErrArg},
		{chapterM(), 3, math.MinInt, "", api.ErrArg},
		{chapterM(), 8, 1, "", api.ErrArg},
		{chapterM(), -1, 1, "", api.ErrArg},
		{chapterM(), 8, 31, "", api.ErrArg},
		{chapterM(), 3, 30, "cc" + strings.Repeat("wc", 28), api.OK},
		{chapterM(), 7, 3, "wcwcwc", api.OK},
		{chapterN(), 4, 1, "c", api.OK},
		{chapterN(), 4, 2, "", api.ErrHeat},
		{chapterN(), 7, 1, "", api.ErrHeat},
		{slowMould(), 15, 30, strings.Repeat("wwwwwwwwwwwwwwwc", 30), api.OK},
		{slowMould(), 0, 2, "cwwwwwwwwwwwwwwwc", api.OK},
		{coldMould(), 0, 15, strings.Repeat("c", 15), api.OK},
		{coldMould(), 0, 16, "", api.ErrHeat},
		{coldMould(), 3, 12, strings.Repeat("c", 12), api.OK},
		{coldMould(), 3, 13, "", api.ErrHeat},
		{oddMould(), 0, 3, "ccc", api.OK},
		{oddMould(), 0, 4, "cccwc", api.OK},
		{oddMould(), 0, 6, "cccwccwc", api.OK},
		{mould(list(0), list(0), 0, 0), 0, 30, strings.Repeat("c", 30), api.OK},
		// As few waits has wcc, which comes later.
		{mould(list(1, 2, 3, 3), list(0, 0, 1, 2), 1, 2), 2, 2, "cwc", api.OK},
		// A cast is possible at once, but makes the mould too hot for ever.
		{mould(list(0, 4, 4, 4, 4), list(0, 0, 1, 2, 4), 0, 1), 1, 1, "c", api.OK},
		{mould(list(0, 4, 4, 4, 4), list(0, 0, 1, 2, 4), 0, 1), 1, 2, "wcc", api.OK},
	} {
		if plan, e := heat.Plan(x.m, x.from, x.casts); plan != x.plan || e != x.e {
			t.Error(i, plan, e)
		}
		if waits, e := heat.Fewest(x.m, x.from, x.casts); waits != strings.Count(x.plan, "w") || e != x.e {
			t.Error(i, waits, e)
		}
	}
}

// P7.4, P7.5
func TestMostAndLabels(t *testing.T) {
	for i, x := range []struct {
		m      api.HeatMould
		labels []int
	}{
		{chapterM(), list(0, 0, -1, -1, -1, -1, -1, -1)},
		{chapterN(), list(0, 0, 0, 0, 1, 1, 0, 0)},
		{slowMould(), slices.Repeat(list(-1), 16)},
		{coldMould(), list(15, 14, 13, 12, 11, 10, 9, 8, 7, 6, 5, 4, 3, 2, 1, 0)},
		{oddMould(), slices.Repeat(list(-1), 8)},
		{mould(list(0), list(0), 0, 0), list(-1)},
		{mould(list(1, 1), list(0, 0), 1, 1), list(0, -1)},
		{mould(list(1, 1), list(0, 1), 0, 0), list(1, 0)},
		{mould(list(1, 1), list(0, 0), 0, 0), list(-1, -1)},
		{mould(list(0, 2, 2), list(0, 0, 0), 1, 1), list(0, 1, 0)},
		// From the heat 4 a wait leads to 3, where a cast is possible, as it is at 4 itself.
		{mould(list(0, 1, 5, 5, 5, 5), list(0, 1, 1, 2, 3, 5), 3, 4), list(0, 0, 0, 1, 1, 0)},
		// At 2 a wait is better than a cast: only from 1 on there are two casts.
		{mould(list(0, 3, 5, 5, 5, 5), list(0, 1, 1, 3, 4, 5), 1, 4), list(0, 2, 2, 1, 1, 0)},
	} {
		labels, e := heat.Labels(x.m)
		if !slices.Equal(labels, x.labels) || e != api.OK {
			t.Error(i, labels, e)
		}
		for from, label := range x.labels {
			most, e := label, api.OK
			if label < 0 {
				most, e = 0, api.ErrOver
			}
			if got, f := heat.Most(x.m, from); got != most || f != e {
				t.Error(i, from, got, f)
			}
		}
		for _, from := range list(-1, len(x.labels), math.MaxInt, math.MinInt) {
			if got, e := heat.Most(x.m, from); got != 0 || e != api.ErrArg {
				t.Error(i, from, got, e)
			}
		}
	}
}

// P7.5
func TestCheckLabels(t *testing.T) {
	none := slices.Repeat(list(-1), 8)
	for i, x := range []struct {
		m      api.HeatMould
		labels []int
		e      api.Errno
	}{
		{chapterN(), list(0, 0, 0, 0, 1, 1, 0, 0), api.OK},
		{chapterN(), list(0, 0, 0, 0, 2, 1, 1, 0), api.ErrSum},
		{chapterN(), list(0, 0, 0, 0, 0, 1, 0, 0), api.ErrSum},
		{chapterN(), list(-1, -1, 0, -1, -1, -1, -1, -1), api.ErrSum},
		{chapterN(), none, api.OK},
		{chapterN(), list(0, 0, 0, 0, 30, 30, 0, 0), api.OK},
		{chapterN(), list(0, 0, 0, 0, 31, 30, 0, 0), api.ErrRange},
		{chapterN(), list(30, 30, 30, 30, 30, 30, 29, 29), api.OK},
		{chapterN(), list(30, 30, 30, 30, 30, 30, 30, 29), api.ErrSum},
		{chapterN(), list(0, 0, 0, 0, 1, 1, 0, -2), api.ErrRange},
		{chapterN(), list(0, 0, 0, 0, 1, 1, 0, math.MaxInt), api.ErrRange},
		{chapterN(), list(math.MinInt, 0, 0, 0, 1, 1, 0, 0), api.ErrRange},
		{chapterN(), list(0, 0, 0, 0, 1, 1, 0), api.ErrEqual},
		{chapterN(), list(0, 0, 0, 0, 1, 1, 0, 0, 0), api.ErrEqual},
		{chapterN(), list(31), api.ErrEqual},
		{chapterN(), nil, api.ErrEqual},
		{chapterN(), list(9, 9, 9, 9, 9, 9, 9, 31), api.ErrRange},
		{chapterN(), list(0, 0, 0, 0, 1, -1, 0, 0), api.OK},
		{chapterN(), list(0, 0, 0, 0, 1, 1, 0, -1), api.ErrSum},
		{chapterN(), list(0, 0, 0, 0, 1, 1, -1, -1), api.ErrSum},
		{chapterN(), list(0, 0, -1, 0, 1, 1, 0, 0), api.ErrSum},
		{chapterN(), list(0, 0, 1, 0, 1, 1, 0, 0), api.OK},
		{chapterN(), list(0, 0, 2, 0, 1, 1, 0, 0), api.ErrSum},
		{chapterN(), list(1, 1, 1, 1, 1, 1, 0, 0), api.OK},
		{chapterN(), list(1, 0, 1, 1, 1, 1, 0, 0), api.ErrSum},
		{chapterM(), list(0, 0, -1, -1, -1, -1, -1, -1), api.OK},
		{chapterM(), list(0, -1, -1, -1, -1, -1, -1, -1), api.OK},
		{chapterM(), list(-1, 0, -1, -1, -1, -1, -1, -1), api.ErrSum},
		{chapterM(), list(0, 0, 30, -1, -1, -1, -1, -1), api.ErrSum},
		{chapterM(), list(0, 0, 2, 2, 1, 1, 0, 0), api.ErrSum},
		{mould(list(0), list(0), 0, 0), list(-1), api.OK},
		{mould(list(0), list(0), 0, 0), list(0), api.ErrSum},
		{mould(list(0), list(0), 0, 0), list(30), api.ErrSum},
		{coldMould(), list(15, 14, 13, 12, 11, 10, 9, 8, 7, 6, 5, 4, 3, 2, 1, 0), api.OK},
		{coldMould(), list(15, 14, 13, 12, 11, 10, 9, 8, 7, 6, 5, 4, 3, 2, 0, 0), api.ErrSum},
	} {
		if e := heat.CheckLabels(x.m, x.labels); e != x.e {
			t.Error(i, e)
		}
	}
}

// P7.6
func TestCheckRound(t *testing.T) {
	long := strings.Repeat("cw", 250)
	for i, x := range []struct {
		m            api.HeatMould
		from         int
		first, again string
		r            api.Ratio
		e            api.Errno
	}{
		{chapterM(), 3, "ccw", "cw", ratio(1, 1), api.OK},
		{chapterM(), 3, "c", "cw", api.Ratio{}, api.ErrSum},
		{chapterM(), 3, "", "w", api.Ratio{}, api.ErrSum},
		{chapterM(), 3, "", "cw", ratio(1, 1), api.OK},
		{chapterM(), 3, "", "", api.Ratio{}, api.ErrSum},
		{chapterM(), 0, "", "w", api.Ratio{}, api.ErrSum},
		{chapterM(), 0, "w", "", api.Ratio{}, api.ErrSum},
		{chapterM(), 3, "", "ccwcwcww", api.Ratio{}, api.ErrSum},
		{chapterM(), 3, "", "cwcwcw", ratio(1, 1), api.OK},
		{chapterM(), 3, long, long, ratio(1, 1), api.OK},
		{chapterM(), 3, long + "w", "x", api.Ratio{}, api.ErrLong},
		{chapterM(), 3, long + "x", long + "x", api.Ratio{}, api.ErrLong},
		{chapterM(), 3, "ccc", long + "x", api.Ratio{}, api.ErrHeat},
		{chapterM(), 3, "cccx", "ccc", api.Ratio{}, api.ErrForm},
		{chapterM(), 3, "ccc", "x", api.Ratio{}, api.ErrHeat},
		{chapterM(), 3, "cc", long + "x", api.Ratio{}, api.ErrLong},
		{chapterM(), 3, "cc", "cx", api.Ratio{}, api.ErrForm},
		{chapterM(), 3, "cc", "cw", api.Ratio{}, api.ErrHeat},
		{chapterM(), 3, "", "ccc", api.Ratio{}, api.ErrHeat},
		{chapterM(), 8, "ccc", "x", api.Ratio{}, api.ErrArg},
		{chapterM(), -1, "", "cw", api.Ratio{}, api.ErrArg},
		{oddMould(), 0, "", "ccwcw", ratio(2, 3), api.OK},
		{oddMould(), 0, "", "ccwcwccwcw", ratio(2, 3), api.OK},
		{oddMould(), 2, "", "ccwcw", ratio(2, 3), api.OK},
		{oddMould(), 0, "", "ccww", ratio(1, 1), api.OK},
		{oddMould(), 0, "", "cw", ratio(1, 1), api.OK},
		{oddMould(), 0, "", "cww", ratio(2, 1), api.OK},
		{slowMould(), 15, "", "wwwwwwwwwwwwwwwc", ratio(15, 1), api.OK},
		{slowMould(), 15, "", strings.Repeat("wwwwwwwwwwwwwwwc", 31), ratio(15, 1), api.OK},
		{mould(list(0), list(0), 0, 0), 0, "", "c", ratio(0, 1), api.OK},
		{mould(list(0), list(0), 0, 0), 0, "w", "ccccc", ratio(0, 1), api.OK},
		{mould(list(0), list(0), 0, 0), 0, "w", "cwcwccww", ratio(1, 1), api.OK},
		{mould(list(0), list(0), 0, 0), 0, "w", "www", api.Ratio{}, api.ErrSum},
	} {
		if r, e := heat.CheckRound(x.m, x.from, x.first, x.again); r != x.r || e != x.e {
			t.Error(i, r, e)
		}
	}
}

// P7.6, P7.7
func TestRoundAndRate(t *testing.T) {
	for i, x := range []struct {
		m    api.HeatMould
		from int
		r    api.Ratio
		e    api.Errno
	}{
		{chapterM(), 3, ratio(1, 1), api.OK},
		{chapterM(), 7, ratio(1, 1), api.OK},
		{chapterM(), 2, ratio(1, 1), api.OK},
		{chapterM(), 1, api.Ratio{}, api.ErrHeat},
		{chapterM(), 0, api.Ratio{}, api.ErrHeat},
		{chapterM(), 8, api.Ratio{}, api.ErrArg},
		{chapterM(), -1, api.Ratio{}, api.ErrArg},
		{chapterM(), math.MaxInt, api.Ratio{}, api.ErrArg},
		{chapterM(), math.MinInt, api.Ratio{}, api.ErrArg},
		{chapterN(), 4, api.Ratio{}, api.ErrHeat},
		{chapterN(), 8, api.Ratio{}, api.ErrArg},
		{slowMould(), 0, ratio(15, 1), api.OK},
		{slowMould(), 15, ratio(15, 1), api.OK},
		{coldMould(), 0, api.Ratio{}, api.ErrHeat},
		{coldMould(), 15, api.Ratio{}, api.ErrHeat},
		{oddMould(), 0, ratio(2, 3), api.OK},
		{oddMould(), 7, ratio(2, 3), api.OK},
		{mould(list(0), list(0), 0, 0), 0, ratio(0, 1), api.OK},
		{mould(list(1, 1), list(0, 0), 1, 1), 1, ratio(0, 1), api.OK},
		{mould(list(1, 1), list(0, 0), 1, 1), 0, api.Ratio{}, api.ErrHeat},
		{mould(list(1, 1, 3, 3), list(0, 0, 1, 2), 0, 0), 3, ratio(1, 1), api.OK},
		// From 0 there is a round without waits, to which no plan from 3 leads.
		{mould(list(0, 1, 2, 4, 4), list(0, 1, 2, 3, 3), 0, 3), 0, ratio(0, 1), api.OK},
		{mould(list(0, 1, 2, 4, 4), list(0, 1, 2, 3, 3), 0, 3), 3, ratio(1, 1), api.OK},
		{mould(list(0, 1, 2, 4, 4), list(0, 1, 2, 3, 3), 0, 3), 4, ratio(1, 1), api.OK},
		// From 3 a round without waits comes behind a wait.
		{mould(list(0, 1, 2, 4, 4), list(0, 1, 2, 2, 3), 0, 3), 4, ratio(0, 1), api.OK},
	} {
		if r, e := heat.Rate(x.m, x.from); r != x.r || e != x.e {
			t.Error(i, r, e)
		}
		first, again, e := heat.Round(x.m, x.from)
		if e != x.e || e != api.OK && first+again != "" {
			t.Error(i, first, again, e)
		}
		if r, f := heat.CheckRound(x.m, x.from, first, again); e == api.OK && (f != api.OK || rateBefore(r, x.r)) {
			t.Error(i, first, again, r, f)
		}
	}
}

// P7.8
func TestRunAll(t *testing.T) {
	long := strings.Repeat("cw", 250)
	for i, x := range []struct {
		m      api.HeatMould
		from   api.Range
		plan   string
		behind api.Range
		e      api.Errno
	}{
		{chapterM(), span(2, 3), "cw", span(2, 3), api.OK},
		{chapterM(), span(2, 3), "cc", span(6, 7), api.OK},
		{chapterM(), span(3, 4), "cc", api.Range{}, api.ErrHeat},
		{chapterM(), span(2, 3), "", span(2, 3), api.OK},
		{chapterM(), span(0, 7), "", span(0, 7), api.OK},
		{chapterM(), span(0, 7), "w", span(0, 4), api.OK},
		{chapterM(), span(0, 7), "c", api.Range{}, api.ErrHeat},
		{chapterM(), span(2, 5), "c", span(4, 7), api.OK},
		{chapterM(), span(2, 6), "c", api.Range{}, api.ErrHeat},
		{chapterM(), span(1, 5), "c", api.Range{}, api.ErrHeat},
		{chapterM(), span(5, 5), "c", span(7, 7), api.OK},
		{chapterM(), span(2, 3), long, span(2, 3), api.OK},
		{chapterM(), span(2, 3), long + "x", api.Range{}, api.ErrLong},
		{chapterM(), span(2, 3), "cccccx", api.Range{}, api.ErrForm},
		{chapterM(), span(2, 3), "c w", api.Range{}, api.ErrForm},
		{chapterM(), span(3, 2), "", api.Range{}, api.ErrRange},
		{chapterM(), span(-1, 2), "", api.Range{}, api.ErrRange},
		{chapterM(), span(2, 8), "", api.Range{}, api.ErrRange},
		{chapterM(), span(8, 8), long + "x", api.Range{}, api.ErrRange},
		{chapterM(), span(math.MinInt64, math.MaxInt64), "", api.Range{}, api.ErrRange},
		{chapterM(), span(0, 1<<32), "", api.Range{}, api.ErrRange},
		{chapterM(), span(1<<32, 1<<32), "", api.Range{}, api.ErrRange},
		{oddMould(), span(0, 7), "www", span(0, 0), api.OK},
		{oddMould(), span(0, 7), "wwwccc", span(6, 6), api.OK},
		{mould(list(0), list(0), 0, 0), span(0, 0), "cw", span(0, 0), api.OK},
		{mould(list(0), list(0), 0, 0), span(0, 1), "cw", api.Range{}, api.ErrRange},
	} {
		if behind, e := heat.RunAll(x.m, x.from, x.plan); behind != x.behind || e != x.e {
			t.Error(i, behind, e)
		}
	}
}

// P7.8
func TestSurely(t *testing.T) {
	for i, x := range []struct {
		m     api.HeatMould
		from  api.Range
		casts int
		waits int
		e     api.Errno
	}{
		{chapterM(), span(2, 5), 0, 0, api.OK},
		{chapterM(), span(1, 3), 1, 0, api.ErrHeat},
		{chapterM(), span(7, 8), 1, 0, api.ErrRange},
		{chapterM(), span(2, 5), 1, 0, api.OK},
		{chapterM(), span(2, 5), 2, 1, api.OK},
		{chapterM(), span(2, 5), 30, 29, api.OK},
		{chapterM(), span(2, 6), 1, 0, api.ErrHeat},
		{chapterM(), span(4, 7), 1, 1, api.OK},
		{chapterM(), span(4, 7), 30, 30, api.OK},
		{chapterM(), span(2, 3), 2, 0, api.OK},
		{chapterM(), span(0, 7), 0, 0, api.OK},
		{chapterM(), span(0, 7), 1, 0, api.ErrHeat},
		{chapterM(), span(2, 5), 31, 0, api.ErrArg},
		{chapterM(), span(2, 5), -1, 0, api.ErrArg},
		{chapterM(), span(2, 5), math.MaxInt, 0, api.ErrArg},
		{chapterM(), span(1, 3), 31, 0, api.ErrArg},
		{chapterM(), span(5, 2), 31, 0, api.ErrRange},
		{chapterM(), span(-1, 2), 1, 0, api.ErrRange},
		{chapterM(), span(math.MinInt64, math.MaxInt64), 1, 0, api.ErrRange},
		{chapterM(), span(1<<32, 1<<32+1), 1, 0, api.ErrRange},
		{oddMould(), span(0, 7), 1, 1, api.OK},
		{oddMould(), span(0, 7), 2, 2, api.OK},
		{slowMould(), span(0, 15), 30, 450, api.OK},
		{slowMould(), span(0, 14), 1, 14, api.OK},
		{coldMould(), span(0, 14), 1, 0, api.OK},
		{coldMould(), span(0, 14), 2, 0, api.ErrHeat},
		{mould(list(0), list(0), 0, 0), span(0, 0), 30, 0, api.OK},
	} {
		plan, e := heat.Surely(x.m, x.from, x.casts)
		if len(plan) != strings.Count(plan, "c")+x.waits || e != x.e || e != api.OK && plan != "" {
			t.Error(i, plan, e)
		}
		if e != api.OK {
			continue
		}
		for from := x.from.Lo; from <= x.from.Hi; from++ {
			if _, casts, works := runOf(x.m, int(from), plan); !works || casts != x.casts {
				t.Error(i, plan, from, casts, works)
			}
		}
	}
}
