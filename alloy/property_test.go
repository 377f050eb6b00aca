package alloy_test

import (
	"slices"
	"testing"

	"porringer/alloy"
	"porringer/api"
)

// The tests of this file are those of the properties P1.8 to P1.15, and so of P2: each asks many questions.

// truths calls a function with all truths in which each content is at one of its ends.
func truths(metals []api.AlloyMetal, visit func(lead, copper []int64)) {
	n := len(metals)
	lead, copper := make([]int64, n), make([]int64, n)
	for which := range 1 << (2 * n) {
		for i, m := range metals {
			lead[i] = []int64{m.Lead.Lo, m.Lead.Hi}[which>>(2*i)&1]
			copper[i] = []int64{m.Copper.Lo, m.Copper.Hi}[which>>(2*i+1)&1]
		}
		visit(lead, copper)
	}
}

func weighted(mixture, contents []int64) (sum, total int64) {
	for i, part := range mixture {
		sum += part * contents[i]
		total += part
	}
	return sum, total
}

// P1.3 and P1.10 by the definition: surely is in each truth, may is in some. P1.2: the ends are those of all truths.
func TestDeservesByTruths(t *testing.T) {
	d := dice(7)
	for i := range 600 {
		metals, touch := d.metals(3, 100), d.touch(100)
		mixture := d.mixture(len(metals))
		every, some := true, false
		ends := [2][2]api.Ratio{{{Num: 1000, Den: 1}, {Den: 1}}, {{Num: 1000, Den: 1}, {Den: 1}}}
		truths(metals, func(lead, copper []int64) {
			l, total := weighted(mixture, lead)
			c, _ := weighted(mixture, copper)
			right := l <= total*touch.Lead && c >= total*touch.Copper
			every, some = every && right, some || right
			for k, sum := range []int64{l, c} {
				r := by(sum/common(sum, total), total/common(sum, total))
				if less(r, ends[k][0]) {
					ends[k][0] = r
				}
				if less(ends[k][1], r) {
					ends[k][1] = r
				}
			}
		})
		for k, copper := range []bool{false, true} {
			if a, b, e := alloy.Ends(metals, mixture, copper); a != ends[k][0] || b != ends[k][1] || e != api.OK {
				t.Fatal(i, metals, mixture, copper, a, b, e)
			}
		}
		surely := question{metals, touch, true}.deserves(mixture)
		may := question{metals, touch, false}.deserves(mixture)
		if surely != every || may != some || surely && !may {
			t.Fatal(i, metals, touch, mixture, surely, may)
		}
	}
}

// proves reports, by the definition, whether a proof holds for all metals.
func proves(q question, p api.AlloyProof) bool {
	for _, m := range q.metals {
		lead, copper := m.Lead.Lo, m.Copper.Hi
		if q.sure {
			lead, copper = m.Lead.Hi, m.Copper.Lo
		}
		if p.Base-p.Lead*lead+p.Copper*copper > p.Den*m.Price {
			return false
		}
	}
	return p.Lead >= 0 && p.Copper >= 0
}

// P1.4 to P1.6, P1.8
func TestProved(t *testing.T) {
	ask(t, func(t *testing.T, d *dice, q question) {
		checkFound(t, q)
		least, e := q.least()
		if e != api.OK {
			return
		}
		p, _ := alloy.Proof(q.metals, q.touch, q.sure)
		value := p.Base - p.Lead*q.touch.Lead + p.Copper*q.touch.Copper
		if !proves(q, p) || value*least.Den != least.Num*p.Den {
			t.Error(q, p, least)
		}
		for _, m := range q.deserving(d) {
			if cost, e := alloy.Cost(q.metals, m); e != api.OK || less(cost, least) {
				t.Error(q, m, cost, e)
			}
		}
		weak := proof(1+d.upTo(9), d.upTo(5000)-1000, d.upTo(3), d.upTo(3))
		if cost, e := alloy.CheckProof(q.metals, q.touch, q.sure, weak); (e == api.OK) != proves(q, weak) || e == api.OK && (less(least, cost) || !inLeastTerms(cost)) {
			t.Error(q, weak, cost, e)
		}
	})
}

// P1.6, P1.9
func TestEither(t *testing.T) {
	some, none := 0, 0
	ask(t, func(t *testing.T, d *dice, q question) {
		_, e := q.least()
		p, never := alloy.Never(q.metals, q.touch, q.sure)
		switch {
		case e == api.OK && never == api.ErrNone:
			some++
		case e == api.ErrAlloy && never == api.OK:
			none++
			value := p.Base - p.Lead*q.touch.Lead + p.Copper*q.touch.Copper
			if p.Den != 0 || !proves(q, p) || value <= 0 || len(q.deserving(d)) > 0 {
				t.Error(q, p)
			}
		default:
			t.Error(q, e, never)
		}
		guess := proof(0, d.upTo(2000)-1000, d.upTo(2), d.upTo(2))
		if alloy.CheckNever(q.metals, q.touch, q.sure, guess) == api.OK && e == api.OK {
			t.Error(q, guess)
		}
	})
	if some < 200 || none < 200 {
		t.Error("too few questions of one kind:", some, none)
	}
}

// P1.10
func TestSurely(t *testing.T) {
	ask(t, func(t *testing.T, d *dice, q question) {
		surely, may := question{q.metals, q.touch, true}, question{q.metals, q.touch, false}
		for _, m := range surely.deserving(d) {
			if !may.deserves(m) {
				t.Error(q, m)
			}
		}
		a, e := may.least()
		b, f := surely.least()
		if f == api.OK && (e != api.OK || less(b, a)) {
			t.Error(q, a, e, b, f)
		}
	})
}

// P1.11
func TestSofter(t *testing.T) {
	ask(t, func(t *testing.T, d *dice, q question) {
		softer := q
		softer.touch.Lead = min(1000, q.touch.Lead+d.upTo(100))
		softer.touch.Copper = max(0, q.touch.Copper-d.upTo(100))
		for _, m := range q.deserving(d) {
			if !softer.deserves(m) {
				t.Error(q, softer, m)
			}
		}
		checkNoDearer(t, q, softer)
		for k := range q.metals {
			a, b, e := alloy.Share(q.metals, q.touch, q.sure, k)
			c, f, g := alloy.Share(softer.metals, softer.touch, softer.sure, k)
			if e == api.OK && (g != api.OK || less(a, c) || less(f, b)) {
				t.Error(q, softer, k)
			}
		}
		narrower := q
		narrower.metals = slices.Clone(q.metals)
		for i := range narrower.metals {
			m := &narrower.metals[i]
			m.Lead.Hi -= d.upTo(m.Lead.Hi - m.Lead.Lo)
			m.Copper.Lo += d.upTo(m.Copper.Hi - m.Copper.Lo)
		}
		for _, m := range q.deserving(d) {
			if q.sure && !narrower.deserves(m) {
				t.Error(q, narrower, m)
			}
		}
	})
}

// checkNoDearer checks that the least cost of easier is no more than that of q.
func checkNoDearer(t *testing.T, q, easier question) {
	t.Helper()
	a, e := q.least()
	b, f := easier.least()
	if e == api.OK && (f != api.OK || less(a, b)) {
		t.Error(q, easier, a, e, b, f)
	}
}

// P1.12
func TestMixed(t *testing.T) {
	ask(t, func(t *testing.T, d *dice, q question) {
		list := q.deserving(d)
		for i := 1; i < len(list); i++ {
			a, b := list[i-1], list[i]
			sum := make([]int64, len(a))
			for k := range sum {
				sum[k] = min(a[k]+b[k], api.MaxAlloyPart)
				if sum[k] != a[k]+b[k] {
					sum = nil // too many parts to be poured together
					break
				}
			}
			if sum == nil {
				continue
			}
			x, _ := alloy.Cost(q.metals, a)
			y, _ := alloy.Cost(q.metals, b)
			z, e := alloy.Cost(q.metals, sum)
			if e != api.OK || !q.deserves(sum) || less(z, x) && less(z, y) || less(x, z) && less(y, z) {
				t.Error(q, a, b, x, y, z)
			}
		}
	})
}

// P1.7, P1.13: the ends of a share are the least costs if this metal alone, or each other one, costs something.
func TestShareEnds(t *testing.T) {
	ask(t, func(t *testing.T, d *dice, q question) {
		list := q.deserving(d)
		for k := range q.metals {
			a, b, e := alloy.Share(q.metals, q.touch, q.sure, k)
			least, f := alloy.Least(priced(q.metals, k, 1, 0), q.touch, q.sure)
			rest, _ := alloy.Least(priced(q.metals, k, 0, 1), q.touch, q.sure)
			most := by(rest.Den-rest.Num, rest.Den)
			if a != least || b != most || e != f {
				t.Error(q, k, a, b, e, least, most, f)
			}
			for _, m := range list {
				_, total := weighted(m, m)
				if share := by(m[k], total); less(share, a) || less(b, share) {
					t.Error(q, k, m, a, b)
				}
			}
		}
	})
}

// P1.14
func TestScaled(t *testing.T) {
	ask(t, func(t *testing.T, d *dice, q question) {
		for i := range q.metals {
			q.metals[i].Price %= 100
		}
		least, e := q.least()
		times, more, turned := q, q, q
		times.metals, more.metals, turned.metals = slices.Clone(q.metals), slices.Clone(q.metals), slices.Clone(q.metals)
		slices.Reverse(turned.metals)
		for i := range q.metals {
			times.metals[i].Price *= 7
			more.metals[i].Price += 7
		}
		if r, f := times.least(); e != f || r.Num*least.Den != 7*least.Num*r.Den {
			t.Error("as many times", q, least, r, f)
		}
		if r, f := more.least(); e != f || r.Num != least.Num+7*least.Den || r.Den != least.Den {
			t.Error("as much more", q, least, r, f)
		}
		if r, f := turned.least(); e != f || r != least {
			t.Error("in another order", q, least, r, f)
		}
		for k := range q.metals {
			a, b, _ := alloy.Share(q.metals, q.touch, q.sure, k)
			c, f, _ := alloy.Share(turned.metals, q.touch, q.sure, len(q.metals)-1-k)
			if a != c || b != f {
				t.Error("shares", q, k)
			}
		}
		checkManyParts(t, q, d.mixture(len(q.metals)))
	})
}

// checkManyParts checks that nothing changes if all parts are as many times as great.
func checkManyParts(t *testing.T, q question, m []int64) {
	t.Helper()
	many := slices.Clone(m)
	for i := range many {
		many[i] *= 1000
	}
	a, _ := alloy.Cost(q.metals, m)
	b, _ := alloy.Cost(q.metals, many)
	if a != b || q.deserves(m) != q.deserves(many) {
		t.Error("parts", q, m, a, b)
	}
	for _, copper := range []bool{false, true} {
		a, b, _ := alloy.Ends(q.metals, m, copper)
		c, f, _ := alloy.Ends(q.metals, many, copper)
		if a != c || b != f {
			t.Error("ends", q, m, a, b, c, f)
		}
	}
}

// P1.15
func TestMore(t *testing.T) {
	ask(t, func(t *testing.T, d *dice, q question) {
		if len(q.metals) == api.MaxAlloyMetals {
			return
		}
		more := q
		more.metals = append(slices.Clone(q.metals), d.metals(1, 50)...)
		checkNoDearer(t, q, more)
		useless := q
		useless.metals = append(slices.Clone(q.metals), noBetter(d, q.metals))
		a, e := q.least()
		if b, f := useless.least(); a != b || e != f {
			t.Error(q, useless, a, e, b, f)
		}
	})
}

// noBetter returns a metal that is no better in anything than a mixture of others.
func noBetter(d *dice, metals []api.AlloyMetal) api.AlloyMetal {
	m := d.mixture(len(metals))
	var total int64
	var sums [5]int64
	for i, x := range metals {
		total += m[i]
		for k, n := range []int64{x.Price, x.Lead.Lo, x.Lead.Hi, x.Copper.Lo, x.Copper.Hi} {
			sums[k] += m[i] * n
		}
	}
	up := func(n int64) int64 { return (n + total - 1) / total }
	return metal(up(sums[0]), up(sums[1]), up(sums[2]), sums[3]/total, sums[4]/total)
}

// P1.4, P1.7: nothing is left out, by all mixtures of few parts.
func TestAgainstAllMixtures(t *testing.T) {
	d := dice(11)
	for range 200 {
		q := question{d.metals(4, 250), d.touch(250), d.upTo(1) == 0}
		least, e := q.least()
		found := false
		every(len(q.metals), 4, func(m []int64) {
			if !q.deserves(m) {
				return
			}
			found = true
			if cost, _ := alloy.Cost(q.metals, m); less(cost, least) {
				t.Fatal(q, m, cost, least)
			}
		})
		if found && e != api.OK {
			t.Fatal(q, e)
		}
	}
}

// every calls a function with all mixtures of n metals with parts up to most.
func every(n int, most int64, visit func([]int64)) {
	m := make([]int64, n)
	for {
		i := 0
		for i < n && m[i] == most {
			m[i] = 0
			i++
		}
		if i == n {
			return
		}
		m[i]++
		visit(m)
	}
}
