package alloy_test

import (
	"slices"
	"testing"

	"porringer/alloy"
	"porringer/api"
)

func metal(price, lead, most, copper, high int64) api.AlloyMetal {
	return api.AlloyMetal{Price: price, Lead: api.Range{Lo: lead, Hi: most}, Copper: api.Range{Lo: copper, Hi: high}}
}

// exact returns a metal whose contents are known.
func exact(price, lead, copper int64) api.AlloyMetal {
	return metal(price, lead, lead, copper, copper)
}

func by(num, den int64) api.Ratio { return api.Ratio{Num: num, Den: den} }

func parts(list ...int64) []int64 { return list }

func proof(den, base, lead, copper int64) api.AlloyProof {
	return api.AlloyProof{Den: den, Base: base, Lead: lead, Copper: copper}
}

// chapterM and chapterV are the metals M and V of the chapter's examples, chapterT is its touch T.
func chapterM() []api.AlloyMetal {
	return []api.AlloyMetal{exact(90, 0, 0), exact(20, 1000, 0), exact(120, 0, 1000), metal(50, 180, 220, 10, 20)}
}

func chapterV() []api.AlloyMetal {
	m := chapterM()
	return []api.AlloyMetal{m[1], m[3]}
}

var chapterT = api.AlloyTouch{Lead: 100, Copper: 10}

// dice makes numbers that look as if by chance, but are the same in each run.
type dice uint64

func (d *dice) upTo(most int64) int64 {
	*d = *d*6364136223846793005 + 1442695040888963407
	return int64(uint64(*d)>>33) % (most + 1)
}

// span returns a range within 0 to 1000; grain makes equal numbers frequent, so that ends meet.
func (d *dice) span(grain int64) api.Range {
	a := d.upTo(api.MaxAlloyContent/grain) * grain
	b := a
	if d.upTo(1) == 0 {
		b = d.upTo(api.MaxAlloyContent/grain) * grain
	}
	return api.Range{Lo: min(a, b), Hi: max(a, b)}
}

// metals returns from 1 to most metals.
func (d *dice) metals(most, grain int64) []api.AlloyMetal {
	list := make([]api.AlloyMetal, 1+d.upTo(most-1))
	for i := range list {
		list[i] = api.AlloyMetal{Price: d.upTo(api.MaxAlloyPrice), Lead: d.span(grain), Copper: d.span(grain)}
	}
	return list
}

func (d *dice) touch(grain int64) api.AlloyTouch {
	return api.AlloyTouch{Lead: d.upTo(api.MaxAlloyContent/grain) * grain, Copper: d.upTo(api.MaxAlloyContent/grain) * grain}
}

// mixture returns parts for n metals, not all 0.
func (d *dice) mixture(n int) []int64 {
	list := make([]int64, n)
	for i := range list {
		list[i] = max(0, d.upTo(12)-4)
	}
	list[d.upTo(int64(n-1))]++
	return list
}

// question is what is asked of the functions with a touch.
type question struct {
	metals []api.AlloyMetal
	touch  api.AlloyTouch
	sure   bool
}

// ask calls a check with many questions, with few and with many different contents.
func ask(t *testing.T, check func(t *testing.T, d *dice, q question)) {
	t.Helper()
	d := dice(1)
	for i := range 1500 {
		grain := []int64{1, 50, 250}[i%3]
		check(t, &d, question{d.metals(api.MaxAlloyMetals, grain), d.touch(grain), i%2 == 0})
		if t.Failed() {
			t.Fatalf("question %d", i)
		}
	}
}

func (q question) least() (api.Ratio, api.Errno) { return alloy.Least(q.metals, q.touch, q.sure) }

func (q question) deserves(mixture []int64) bool {
	return alloy.Deserves(q.metals, q.touch, q.sure, mixture) == api.OK
}

// deserving returns some mixtures that deserve the touch; corners of Share and of Least are among them.
func (q question) deserving(d *dice) [][]int64 {
	var list [][]int64
	if m, e := alloy.Cheapest(q.metals, q.touch, q.sure); e == api.OK {
		list = append(list, m)
	}
	for k := range q.metals {
		if m, e := alloy.Cheapest(priced(q.metals, k, 0, 1), q.touch, q.sure); e == api.OK {
			list = append(list, m)
		}
	}
	for range 6 {
		if m := d.mixture(len(q.metals)); q.deserves(m) {
			list = append(list, m)
		}
	}
	return list
}

// priced returns the metals with new prices: one for the metal k, and one for all others.
func priced(metals []api.AlloyMetal, k int, its, others int64) []api.AlloyMetal {
	list := slices.Clone(metals)
	for i := range list {
		list[i].Price = others
	}
	list[k].Price = its
	return list
}

// less reports whether a is less than b; a fraction without a Den is more than all others.
func less(a, b api.Ratio) bool {
	if a.Den == 0 || b.Den == 0 {
		return a.Den != 0
	}
	return a.Num*b.Den < b.Num*a.Den
}

func common(a, b int64) int64 {
	for b != 0 {
		a, b = b, a%b
	}
	return max(a, -a)
}

// inLeastTerms reports whether a fraction is as a function has to return it.
func inLeastTerms(r api.Ratio) bool { return r.Den > 0 && common(r.Num, r.Den) == 1 }
