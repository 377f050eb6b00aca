package alloy_test

import (
	"slices"
	"testing"

	"porringer/alloy"
	"porringer/api"
)

// P1.1
func TestCheckMetals(t *testing.T) {
	six := slices.Repeat([]api.AlloyMetal{metal(1000, 0, 1000, 0, 1000)}, 6)
	for _, x := range []struct {
		name   string
		metals []api.AlloyMetal
		want   api.Errno
	}{
		{"M", chapterM(), api.OK},
		{"one", []api.AlloyMetal{exact(0, 0, 0)}, api.OK},
		{"six", six, api.OK},
		{"top", []api.AlloyMetal{metal(1000, 1000, 1000, 1000, 1000)}, api.OK},
		{"nil", nil, api.ErrMany},
		{"empty", []api.AlloyMetal{}, api.ErrMany},
		{"seven", append(six, exact(0, 0, 0)), api.ErrMany},
		{"seven with a bad one", append(six, exact(-1, 0, 0)), api.ErrMany},
		{"price -1", []api.AlloyMetal{exact(-1, 0, 0)}, api.ErrRange},
		{"price 1001", []api.AlloyMetal{exact(1001, 0, 0)}, api.ErrRange},
		{"lead -1", []api.AlloyMetal{metal(0, -1, 0, 0, 0)}, api.ErrRange},
		{"lead 1001", []api.AlloyMetal{metal(0, 0, 1001, 0, 0)}, api.ErrRange},
		{"lead above itself", []api.AlloyMetal{metal(0, 6, 5, 0, 0)}, api.ErrRange},
		{"copper -1", []api.AlloyMetal{metal(0, 0, 0, -1, 0)}, api.ErrRange},
		{"copper 1001", []api.AlloyMetal{metal(0, 0, 0, 0, 1001)}, api.ErrRange},
		{"copper above itself", []api.AlloyMetal{metal(0, 0, 0, 6, 5)}, api.ErrRange},
		{"the last one", append(chapterM(), exact(1001, 0, 0)), api.ErrRange},
	} {
		if e := alloy.CheckMetals(x.metals); e != x.want {
			t.Error(x.name, e)
		}
	}
}

// P1.1
func TestCheckTouch(t *testing.T) {
	for _, x := range []struct {
		touch api.AlloyTouch
		want  api.Errno
	}{
		{chapterT, api.OK},
		{api.AlloyTouch{}, api.OK},
		{api.AlloyTouch{Lead: 1000, Copper: 1000}, api.OK},
		{api.AlloyTouch{Lead: -1}, api.ErrRange},
		{api.AlloyTouch{Lead: 1001}, api.ErrRange},
		{api.AlloyTouch{Copper: -1}, api.ErrRange},
		{api.AlloyTouch{Copper: 1001}, api.ErrRange},
	} {
		if e := alloy.CheckTouch(x.touch); e != x.want {
			t.Error(x.touch, e)
		}
	}
}

// P1.2 and P1.3: the error of a mixture, before that of what it deserves.
func TestMixtureErrors(t *testing.T) {
	for _, x := range []struct {
		mixture []int64
		want    api.Errno
	}{
		{parts(0, 0, 1, 0), api.OK},
		{parts(0, 0, api.MaxAlloyPart, 0), api.OK},
		{nil, api.ErrEqual},
		{parts(1, 0, 1), api.ErrEqual},
		{parts(1, 0, 1, 0, 0), api.ErrEqual},
		{parts(-1, 0, 1), api.ErrEqual},
		{parts(0, 0, 0), api.ErrEqual},
		{parts(0, 0, 1, -1), api.ErrRange},
		{parts(0, 0, 0, -1), api.ErrRange},
		{parts(api.MaxAlloyPart+1, 0, 1, 0), api.ErrRange},
		{parts(0, 0, 0, 0), api.ErrArg},
	} {
		if _, e := alloy.Cost(chapterM(), x.mixture); e != x.want {
			t.Error("Cost", x.mixture, e)
		}
		if _, _, e := alloy.Ends(chapterM(), x.mixture, true); e != x.want {
			t.Error("Ends", x.mixture, e)
		}
		if e := alloy.Deserves(chapterM(), chapterT, true, x.mixture); e != x.want {
			t.Error("Deserves", x.mixture, e)
		}
	}
}

// P1.2, and that fractions are in least terms.
func TestCostAndEnds(t *testing.T) {
	top := slices.Repeat([]api.AlloyMetal{metal(1000, 999, 1000, 0, 1000)}, 6)
	for _, x := range []struct {
		metals       []api.AlloyMetal
		mixture      []int64
		cost         api.Ratio
		lead, copper [2]api.Ratio
	}{
		{chapterM(), parts(297, 0, 3, 250), by(3959, 55), [2]api.Ratio{by(900, 11), by(100, 1)}, [2]api.Ratio{by(10, 1), by(160, 11)}},
		{chapterM(), parts(1, 1, 0, 0), by(55, 1), [2]api.Ratio{by(500, 1), by(500, 1)}, [2]api.Ratio{by(0, 1), by(0, 1)}},
		{chapterM(), parts(0, 0, 0, 1), by(50, 1), [2]api.Ratio{by(180, 1), by(220, 1)}, [2]api.Ratio{by(10, 1), by(20, 1)}},
		{chapterM(), parts(0, 2, 0, 4), by(40, 1), [2]api.Ratio{by(1360, 3), by(480, 1)}, [2]api.Ratio{by(20, 3), by(40, 3)}},
		{top, slices.Repeat(parts(1000000), 6), by(1000, 1), [2]api.Ratio{by(999, 1), by(1000, 1)}, [2]api.Ratio{by(0, 1), by(1000, 1)}},
		{[]api.AlloyMetal{exact(0, 0, 0)}, parts(6), by(0, 1), [2]api.Ratio{by(0, 1), by(0, 1)}, [2]api.Ratio{by(0, 1), by(0, 1)}},
	} {
		if c, e := alloy.Cost(x.metals, x.mixture); c != x.cost || e != api.OK {
			t.Error("Cost", x.mixture, c, e)
		}
		if a, b, e := alloy.Ends(x.metals, x.mixture, false); a != x.lead[0] || b != x.lead[1] || e != api.OK {
			t.Error("lead", x.mixture, a, b, e)
		}
		if a, b, e := alloy.Ends(x.metals, x.mixture, true); a != x.copper[0] || b != x.copper[1] || e != api.OK {
			t.Error("copper", x.mixture, a, b, e)
		}
	}
}

// P1.3
func TestDeserves(t *testing.T) {
	for _, x := range []struct {
		metals  []api.AlloyMetal
		touch   api.AlloyTouch
		sure    bool
		mixture []int64
		want    api.Errno
	}{
		{chapterM(), chapterT, true, parts(297, 0, 3, 250), api.OK},
		{chapterM(), chapterT, true, parts(4, 0, 0, 5), api.ErrAlloy},
		{chapterM(), chapterT, false, parts(4, 0, 0, 5), api.OK},
		{chapterM(), chapterT, false, parts(1, 0, 0, 0), api.ErrAlloy},
		{chapterM(), api.AlloyTouch{Lead: 220, Copper: 10}, true, parts(0, 0, 0, 1), api.OK},
		{chapterM(), api.AlloyTouch{Lead: 219, Copper: 10}, true, parts(0, 0, 0, 1), api.ErrAlloy},
		{chapterM(), api.AlloyTouch{Lead: 220, Copper: 11}, true, parts(0, 0, 0, 1), api.ErrAlloy},
		{chapterM(), api.AlloyTouch{Lead: 180, Copper: 20}, false, parts(0, 0, 0, 1), api.OK},
		{chapterM(), api.AlloyTouch{Lead: 179, Copper: 20}, false, parts(0, 0, 0, 1), api.ErrAlloy},
		{chapterM(), api.AlloyTouch{Lead: 180, Copper: 21}, false, parts(0, 0, 0, 1), api.ErrAlloy},
		{chapterM(), api.AlloyTouch{Lead: 500, Copper: 500}, true, parts(0, 1000000, 1000000, 0), api.OK},
		{chapterM(), api.AlloyTouch{Lead: 500, Copper: 500}, true, parts(0, 1000000, 999999, 0), api.ErrAlloy},
		{chapterM(), api.AlloyTouch{Lead: 1000, Copper: 500}, true, parts(0, 1000000, 999999, 0), api.ErrAlloy},
		{chapterM(), api.AlloyTouch{Lead: 500}, true, parts(0, 999999, 1000000, 0), api.OK},
	} {
		if e := alloy.Deserves(x.metals, x.touch, x.sure, x.mixture); e != x.want {
			t.Error(x.touch, x.sure, x.mixture, e)
		}
	}
}

// P1.4, P1.5 and P1.6: what is found for a question, and the proofs of it.
func TestLeast(t *testing.T) {
	none := api.Ratio{}
	for i, x := range []struct {
		q    question
		want api.Ratio
	}{
		{question{chapterM(), chapterT, true}, by(3959, 55)},
		{question{chapterM(), chapterT, false}, by(610, 9)},
		{question{chapterV(), chapterT, true}, none},
		{question{chapterV(), chapterT, false}, none},
		{question{chapterV(), api.AlloyTouch{Lead: 220, Copper: 10}, true}, by(50, 1)},
		{question{chapterV(), api.AlloyTouch{Lead: 1000}, true}, by(20, 1)},
		{question{[]api.AlloyMetal{exact(0, 5, 5)}, api.AlloyTouch{Lead: 5, Copper: 5}, true}, by(0, 1)},
		{question{[]api.AlloyMetal{exact(9, 6, 5)}, api.AlloyTouch{Lead: 5, Copper: 5}, true}, none},
		{question{[]api.AlloyMetal{exact(9, 5, 4)}, api.AlloyTouch{Lead: 5, Copper: 5}, true}, none},
		{question{[]api.AlloyMetal{exact(7, 0, 0), exact(3, 1000, 0)}, api.AlloyTouch{Lead: 250}, true}, by(6, 1)},
		{question{[]api.AlloyMetal{exact(7, 0, 1000), exact(3, 0, 0)}, api.AlloyTouch{Copper: 250}, true}, by(4, 1)},
		{question{[]api.AlloyMetal{exact(7, 0, 0), exact(3, 1000, 1000)}, api.AlloyTouch{Lead: 500, Copper: 500}, true}, by(5, 1)},
		{question{[]api.AlloyMetal{exact(7, 0, 0), exact(3, 1000, 1000)}, api.AlloyTouch{Lead: 499, Copper: 500}, true}, none},
		{question{[]api.AlloyMetal{exact(3, 0, 0), exact(6, 1000, 0), exact(9, 0, 999)}, api.AlloyTouch{Lead: 0, Copper: 998}, true}, by(2995, 333)},
		{question{[]api.AlloyMetal{metal(9, 0, 0, 0, 1000), metal(2, 0, 1000, 0, 1000)}, api.AlloyTouch{Lead: 0, Copper: 1000}, false}, by(2, 1)},
		{question{[]api.AlloyMetal{metal(9, 0, 0, 0, 1000), metal(2, 0, 1000, 0, 1000)}, api.AlloyTouch{Lead: 0, Copper: 1}, true}, none},
	} {
		wanted, wantedNever := api.OK, api.ErrNone
		if x.want == none {
			wanted, wantedNever = api.ErrAlloy, api.OK
		}
		if r, e := x.q.least(); r != x.want || e != wanted {
			t.Error("Least", i, r, e)
		}
		if _, e := alloy.Cheapest(x.q.metals, x.q.touch, x.q.sure); e != wanted {
			t.Error("Cheapest", i, e)
		}
		if _, e := alloy.Proof(x.q.metals, x.q.touch, x.q.sure); e != wanted {
			t.Error("Proof", i, e)
		}
		if _, e := alloy.Never(x.q.metals, x.q.touch, x.q.sure); e != wantedNever {
			t.Error("Never", i, e)
		}
		checkFound(t, x.q)
	}
}

// checkFound checks what Least, Cheapest, Proof and Never return by what the other functions tell of it.
func checkFound(t *testing.T, q question) {
	t.Helper()
	least, e := q.least()
	if e == api.OK {
		m, _ := alloy.Cheapest(q.metals, q.touch, q.sure)
		if cost, e := alloy.Cost(q.metals, m); cost != least || e != api.OK || !q.deserves(m) {
			t.Error("Cheapest", q, m, cost, e)
		}
		p, _ := alloy.Proof(q.metals, q.touch, q.sure)
		if cost, e := alloy.CheckProof(q.metals, q.touch, q.sure, p); cost != least || e != api.OK {
			t.Error("Proof", q, p, cost, e)
		}
		if !inLeastTerms(least) {
			t.Error("Least", q, least)
		}
		return
	}
	p, _ := alloy.Never(q.metals, q.touch, q.sure)
	if e := alloy.CheckNever(q.metals, q.touch, q.sure, p); e != api.OK {
		t.Error("Never", q, p, e)
	}
}

// P1.5, with the limits of proofs.
func TestCheckProof(t *testing.T) {
	const den, weight = api.MaxAlloyDen, api.MaxAlloyWeight
	plain := []api.AlloyMetal{exact(64, 0, 0)}
	for _, x := range []struct {
		metals []api.AlloyMetal
		touch  api.AlloyTouch
		p      api.AlloyProof
		want   api.Ratio
		e      api.Errno
	}{
		{chapterM(), chapterT, proof(2200, 198000, 403, 66), by(3959, 55), api.OK},
		{chapterM(), chapterT, proof(2200, 198001, 403, 66), by(0, 0), api.ErrSum},
		{chapterM(), chapterT, proof(1, 20, 0, 0), by(20, 1), api.OK},
		{chapterM(), chapterT, proof(2, 40, 1, 0), by(-30, 1), api.OK},
		{chapterM(), chapterT, proof(1, 21, 0, 0), by(0, 0), api.ErrSum},
		{chapterM(), chapterT, proof(1, 50, 0, 0), by(0, 0), api.ErrSum},
		{chapterM(), chapterT, proof(1, 90, 0, 0), by(0, 0), api.ErrSum},
		{chapterM(), chapterT, proof(1, 0, 0, 0), by(0, 1), api.OK},
		{chapterM(), chapterT, proof(1, 0, 0, 1), by(0, 0), api.ErrSum},
		{chapterM(), chapterT, proof(10, 0, 0, 1), by(1, 1), api.OK},
		{chapterM(), chapterT, proof(0, 0, 0, 0), by(0, 0), api.ErrRange},
		{chapterM(), chapterT, proof(-1, 0, 0, 0), by(0, 0), api.ErrRange},
		{chapterM(), chapterT, proof(1, 0, -1, 0), by(0, 0), api.ErrRange},
		{chapterM(), chapterT, proof(1, 0, 0, -1), by(0, 0), api.ErrRange},
		{plain, chapterT, proof(den, weight, 0, 0), by(64, 1), api.OK},
		{plain, chapterT, proof(1, -weight, 0, 0), by(-weight, 1), api.OK},
		{plain, chapterT, proof(1, 0, weight, 0), by(-100*weight, 1), api.OK},
		{plain, chapterT, proof(1, 0, 0, weight), by(10*weight, 1), api.OK},
		{plain, chapterT, proof(den+1, 0, 0, 0), by(0, 0), api.ErrRange},
		{plain, chapterT, proof(1, weight+1, 0, 0), by(0, 0), api.ErrRange},
		{plain, chapterT, proof(1, -weight-1, 0, 0), by(0, 0), api.ErrRange},
		{plain, chapterT, proof(1, 0, weight+1, 0), by(0, 0), api.ErrRange},
		{plain, chapterT, proof(1, 0, 0, weight+1), by(0, 0), api.ErrRange},
		{[]api.AlloyMetal{exact(0, 1000, 1000)}, api.AlloyTouch{Copper: 1000}, proof(1, weight, weight, 0), by(weight, 1), api.OK},
		{[]api.AlloyMetal{exact(0, 1000, 1000)}, api.AlloyTouch{Copper: 1000}, proof(1, 0, 0, weight), by(0, 0), api.ErrSum},
	} {
		if r, e := alloy.CheckProof(x.metals, x.touch, true, x.p); r != x.want || e != x.e {
			t.Error(x.p, r, e)
		}
	}
	bad := []api.AlloyMetal{metal(50, 180, 220, 10, 20)}
	for _, x := range []struct {
		sure bool
		p    api.AlloyProof
		e    api.Errno
	}{
		{true, proof(1, 270, 1, 0), api.OK},
		{false, proof(1, 270, 1, 0), api.ErrSum},
		{false, proof(1, 230, 1, 0), api.OK},
		{true, proof(1, 40, 0, 1), api.OK},
		{false, proof(1, 40, 0, 1), api.ErrSum},
		{false, proof(1, 30, 0, 1), api.OK},
	} {
		if _, e := alloy.CheckProof(bad, chapterT, x.sure, x.p); e != x.e {
			t.Error(x.sure, x.p, e)
		}
	}
}

// P1.6, with the limits of proofs.
func TestCheckNever(t *testing.T) {
	const weight = api.MaxAlloyWeight
	for _, x := range []struct {
		sure bool
		p    api.AlloyProof
		e    api.Errno
	}{
		{true, proof(0, 220, 1, 0), api.OK},
		{true, proof(0, 101, 1, 0), api.OK},
		{true, proof(0, 100, 1, 0), api.ErrSum},
		{true, proof(0, 221, 1, 0), api.ErrSum},
		{false, proof(0, 220, 1, 0), api.ErrSum},
		{false, proof(0, 180, 1, 0), api.OK},
		{true, proof(0, 1, 0, 0), api.ErrSum},
		{true, proof(0, 0, 1, 0), api.ErrSum},
		{true, proof(0, 0, 0, 0), api.ErrSum},
		{true, proof(0, -10, 0, 1), api.ErrSum},
		{true, proof(1, 220, 1, 0), api.ErrRange},
		{true, proof(-1, 220, 1, 0), api.ErrRange},
		{true, proof(0, 220, -1, 0), api.ErrRange},
		{true, proof(0, 220, 1, -1), api.ErrRange},
		{true, proof(0, weight, weight, 0), api.ErrSum},
		{true, proof(0, weight, weight/180, 0), api.OK},
		{true, proof(0, weight, weight/230, 0), api.ErrSum},
		{true, proof(0, weight, weight/200, 0), api.OK},
		{true, proof(0, weight+1, weight, 0), api.ErrRange},
		{true, proof(0, -weight, 0, 0), api.ErrSum},
		{true, proof(0, -weight-1, 0, 0), api.ErrRange},
		{true, proof(0, 0, weight+1, 0), api.ErrRange},
		{true, proof(0, 0, 0, weight+1), api.ErrRange},
		{true, proof(0, 0, 0, weight), api.ErrSum},
	} {
		if e := alloy.CheckNever(chapterV(), chapterT, x.sure, x.p); e != x.e {
			t.Error(x.sure, x.p, e)
		}
	}
	poor := []api.AlloyMetal{exact(5, 0, 0), metal(5, 0, 0, 3, 9)}
	for _, x := range []struct {
		sure bool
		p    api.AlloyProof
		e    api.Errno
	}{
		{true, proof(0, -3, 0, 1), api.OK},
		{true, proof(0, -9, 0, 1), api.OK},
		{true, proof(0, -10, 0, 1), api.ErrSum},
		{true, proof(0, -2, 0, 1), api.ErrSum},
		{false, proof(0, -3, 0, 1), api.ErrSum},
		{false, proof(0, -9, 0, 1), api.OK},
	} {
		if e := alloy.CheckNever(poor, chapterT, x.sure, x.p); e != x.e {
			t.Error(x.sure, x.p, e)
		}
	}
}

// P1.7
func TestShare(t *testing.T) {
	two := []api.AlloyMetal{exact(7, 0, 0), exact(3, 1000, 1000)}
	for _, x := range []struct {
		metals []api.AlloyMetal
		touch  api.AlloyTouch
		sure   bool
		metal  int
		least  api.Ratio
		most   api.Ratio
		e      api.Errno
	}{
		{chapterM(), chapterT, true, 3, by(0, 1), by(5, 11), api.OK},
		{chapterM(), chapterT, true, 0, by(0, 1), by(99, 100), api.OK},
		{chapterM(), chapterT, true, 1, by(0, 1), by(1, 10), api.OK},
		{chapterM(), chapterT, true, 2, by(3, 550), by(1, 1), api.OK},
		{chapterM(), chapterT, true, 4, by(0, 0), by(0, 0), api.ErrArg},
		{chapterM(), chapterT, true, -1, by(0, 0), by(0, 0), api.ErrArg},
		{two, api.AlloyTouch{Lead: 750, Copper: 250}, true, 0, by(1, 4), by(3, 4), api.OK},
		{two, api.AlloyTouch{Lead: 500, Copper: 500}, true, 1, by(1, 2), by(1, 2), api.OK},
		{two, api.AlloyTouch{Lead: 499, Copper: 500}, true, 1, by(0, 0), by(0, 0), api.ErrAlloy},
		{two, api.AlloyTouch{Lead: 499, Copper: 500}, true, 2, by(0, 0), by(0, 0), api.ErrArg},
		{chapterV(), chapterT, false, 1, by(0, 0), by(0, 0), api.ErrAlloy},
		{chapterV(), api.AlloyTouch{Lead: 180, Copper: 20}, false, 1, by(1, 1), by(1, 1), api.OK},
		{chapterV(), api.AlloyTouch{Lead: 180, Copper: 20}, true, 1, by(0, 0), by(0, 0), api.ErrAlloy},
		{chapterV(), api.AlloyTouch{Lead: 1000, Copper: 0}, true, 0, by(0, 1), by(1, 1), api.OK},
	} {
		if a, b, e := alloy.Share(x.metals, x.touch, x.sure, x.metal); a != x.least || b != x.most || e != x.e {
			t.Error(x.touch, x.sure, x.metal, a, b, e)
		}
	}
}
