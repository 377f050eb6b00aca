package alloy_test

import (
	"math"
	"slices"
	"testing"

	"porringer/alloy"
	"porringer/api"
)

// The tests of this file are those of the document's rules R1 to R10, and of P1. Layer 1 reads and writes no text, so
// that R7 has no test here; and of several that are as good its chapter does not say which one is returned, so that of
// R8 there is left that it is always the same.

// call is what a function is called with, all that any of them needs.
type call struct {
	metals  []api.AlloyMetal
	touch   api.AlloyTouch
	sure    bool
	mixture []int64
	copper  bool
	proof   api.AlloyProof
	metal   int
}

// result is what a function returned.
type result struct {
	name  string
	one   api.Ratio
	two   api.Ratio
	proof api.AlloyProof
	parts [api.MaxAlloyMetals]int64
	many  int
	e     api.Errno
}

// all returns the results of all functions, with the same arguments.
func (c call) all() []result {
	var list []result
	add := func(r result) { list = append(list, r) }
	add(result{name: "CheckMetals", e: alloy.CheckMetals(c.metals)})
	add(result{name: "CheckTouch", e: alloy.CheckTouch(c.touch)})
	one, e := alloy.Cost(c.metals, c.mixture)
	add(result{name: "Cost", one: one, e: e})
	one, two, e := alloy.Ends(c.metals, c.mixture, c.copper)
	add(result{name: "Ends", one: one, two: two, e: e})
	add(result{name: "Deserves", e: alloy.Deserves(c.metals, c.touch, c.sure, c.mixture)})
	one, e = alloy.Least(c.metals, c.touch, c.sure)
	add(result{name: "Least", one: one, e: e})
	m, e := alloy.Cheapest(c.metals, c.touch, c.sure)
	r := result{name: "Cheapest", many: len(m), e: e}
	copy(r.parts[:], m)
	add(r)
	one, e = alloy.CheckProof(c.metals, c.touch, c.sure, c.proof)
	add(result{name: "CheckProof", one: one, e: e})
	p, e := alloy.Proof(c.metals, c.touch, c.sure)
	add(result{name: "Proof", proof: p, e: e})
	add(result{name: "CheckNever", e: alloy.CheckNever(c.metals, c.touch, c.sure, c.proof)})
	p, e = alloy.Never(c.metals, c.touch, c.sure)
	add(result{name: "Never", proof: p, e: e})
	one, two, e = alloy.Share(c.metals, c.touch, c.sure, c.metal)
	add(result{name: "Share", one: one, two: two, e: e})
	return list
}

func goodCall() call {
	return call{chapterM(), chapterT, true, parts(297, 0, 3, 250), false, proof(2200, 198000, 403, 66), 3}
}

// R1
func TestOrderOfErrors(t *testing.T) {
	c := goodCall()
	c.metals = append(slices.Repeat(chapterM(), 2), exact(-1, 0, 0))
	c.touch, c.mixture, c.proof, c.metal = api.AlloyTouch{Lead: -1}, nil, proof(-1, 0, 0, 0), -1
	for _, r := range c.all() {
		if r.name != "CheckTouch" && r.e != api.ErrMany {
			t.Error(r.name, r.e)
		}
	}
	c.metals = []api.AlloyMetal{metal(0, 2, 1, 0, 0)}
	c.touch, c.mixture = chapterT, parts(0)
	for _, r := range c.all() {
		if r.name != "CheckTouch" && r.e != api.ErrRange {
			t.Error(r.name, r.e)
		}
	}
	c.metals, c.touch, c.mixture = chapterM(), api.AlloyTouch{Copper: 1001}, parts(0)
	for _, r := range c.all() {
		if !slices.Contains([]string{"CheckMetals", "Cost", "Ends"}, r.name) && r.e != api.ErrRange {
			t.Error(r.name, r.e)
		}
	}
	for name, x := range map[string]struct {
		change func(c *call)
		want   api.Errno
	}{
		"Deserves":   {func(c *call) { c.mixture = parts(1, 1, -1) }, api.ErrEqual},
		"Cost":       {func(c *call) { c.mixture = parts(0, 0, 0, -1) }, api.ErrRange},
		"CheckProof": {func(c *call) { c.proof = proof(1, 91, -1, 0) }, api.ErrRange},
		"CheckNever": {func(c *call) { c.proof = proof(1, 91, 0, 0) }, api.ErrRange},
		"Share":      {func(c *call) { c.metals, c.metal = chapterV(), 2 }, api.ErrArg},
	} {
		c := goodCall()
		x.change(&c)
		for _, r := range c.all() {
			if r.name == name && r.e != x.want {
				t.Error(r.name, r.e)
			}
		}
	}
}

// R2
func TestZeroWithError(t *testing.T) {
	bad := []func(c *call){
		func(c *call) { c.metals = nil },
		func(c *call) { c.touch.Lead = -1 },
		func(c *call) { c.mixture = parts(0, 0, 0, 0) },
		func(c *call) { c.mixture = parts(1, 1, 1, -1) },
		func(c *call) { c.mixture = parts(1, 1, 1) },
		func(c *call) { c.proof.Base++ },
		func(c *call) { c.proof.Den = 0 },
		func(c *call) { c.metal = 4 },
		func(c *call) { c.metals = chapterV() },
	}
	for i, change := range bad {
		c := goodCall()
		change(&c)
		for _, r := range c.all() {
			if r.e != api.OK && r != (result{name: r.name, e: r.e}) {
				t.Error(i, r)
			}
		}
	}
}

// R3
func TestNilAndEmpty(t *testing.T) {
	for _, c := range []call{{}, {metals: chapterM()}, {mixture: parts()}} {
		with, without := c, c
		if len(c.metals) == 0 {
			with.metals, without.metals = []api.AlloyMetal{}, nil
		}
		with.mixture, without.mixture = []int64{}, nil
		if !slices.Equal(with.all(), without.all()) {
			t.Error(with.all(), without.all())
		}
	}
}

// R4
func TestMemory(t *testing.T) {
	c := goodCall()
	c.metals = append(make([]api.AlloyMetal, 0, 9), c.metals...)
	c.mixture = append(make([]int64, 0, 9), c.mixture...)
	metals, mixture := slices.Clone(c.metals), slices.Clone(c.mixture)
	before := c.all()
	if !slices.Equal(metals, c.metals) || !slices.Equal(mixture, c.mixture) {
		t.Error("an argument was changed")
	}
	if !slices.Equal(c.metals[4:9], make([]api.AlloyMetal, 5)) || !slices.Equal(c.mixture[4:9], make([]int64, 5)) {
		t.Error("what is behind an argument was changed")
	}
	one, _ := alloy.Cheapest(c.metals, c.touch, c.sure)
	two, _ := alloy.Cheapest(c.metals, c.touch, c.sure)
	kept := slices.Clone(two)
	clear(one)
	clear(c.metals)
	clear(c.mixture)
	if !slices.Equal(two, kept) {
		t.Error("two results share memory")
	}
	c.metals, c.mixture = metals, mixture
	if !slices.Equal(before, c.all()) {
		t.Error("a result was kept")
	}
}

// R5, R6 and P1: any value of any argument has a result or an error, and no sum runs over.
func TestAnyArguments(t *testing.T) {
	wild := []int64{math.MinInt64, math.MinInt64 + 1, -1 << 53, -1, 0, 1, 1000, 1 << 30, 1 << 36, 1<<53 + 1, math.MaxInt64}
	for _, a := range wild {
		for _, b := range wild {
			r := api.Range{Lo: a, Hi: b}
			want := api.OK
			if a < 0 || b > 1000 || a > b {
				want = api.ErrRange
			}
			if e := alloy.CheckMetals([]api.AlloyMetal{{Lead: r}}); e != want {
				t.Error("lead", r, e)
			}
			if e := alloy.CheckMetals([]api.AlloyMetal{{Copper: r}}); e != want {
				t.Error("copper", r, e)
			}
			checkWild(t, a, b)
		}
	}
}

func checkWild(t *testing.T, a, b int64) {
	t.Helper()
	outside := a < 0 || b < 0 || a > api.MaxAlloyPart || b > api.MaxAlloyPart
	if _, e := alloy.Cost(chapterV(), parts(a, b)); outside != (e == api.ErrRange) {
		t.Error("mixture", a, b, e)
	}
	if e := alloy.CheckTouch(api.AlloyTouch{Lead: a, Copper: b}); (a < 0 || b < 0 || a > 1000 || b > 1000) != (e == api.ErrRange) {
		t.Error("touch", a, b, e)
	}
	if _, _, e := alloy.Share(chapterV(), api.AlloyTouch{Lead: 1000}, true, int(a)); (a < 0 || a > 1) != (e == api.ErrArg) {
		t.Error("metal", a, e)
	}
	for _, p := range []api.AlloyProof{proof(a, b, 0, 0), proof(1, 0, a, b), proof(0, 0, a, b)} {
		heavy := p.Base < -api.MaxAlloyWeight || min(p.Lead, p.Copper) < 0 || max(p.Base, p.Lead, p.Copper) > api.MaxAlloyWeight
		if _, e := alloy.CheckProof(chapterV(), chapterT, true, p); (heavy || p.Den < 1 || p.Den > api.MaxAlloyDen) != (e == api.ErrRange) {
			t.Error("CheckProof", p, e)
		}
		if e := alloy.CheckNever(chapterV(), chapterT, true, p); (heavy || p.Den != 0) != (e == api.ErrRange) {
			t.Error("CheckNever", p, e)
		}
	}
	c := call{[]api.AlloyMetal{metal(a, b, a, b, a)}, api.AlloyTouch{Lead: a, Copper: b}, true, parts(a), true, proof(a, b, a, b), int(b)}
	if list := c.all(); len(list) != 12 {
		t.Error(list)
	}
}

// R8, R9: equal calls return equal results.
func TestAgain(t *testing.T) {
	alike := slices.Repeat([]api.AlloyMetal{exact(5, 100, 100), exact(5, 200, 200), exact(5, 0, 100)}, 2)
	never := []api.AlloyMetal{exact(5, 300, 0), exact(5, 200, 0), exact(5, 300, 5)}
	for _, c := range []call{
		goodCall(),
		{metals: alike, touch: api.AlloyTouch{Lead: 150, Copper: 100}, mixture: parts(1, 1, 1, 1, 1, 1)},
		{metals: never, touch: chapterT, mixture: parts(1, 1, 1), proof: proof(0, 200, 1, 0)},
	} {
		first := c.all()
		for range 100 {
			if again := c.all(); !slices.Equal(first, again) {
				t.Fatal(first, again)
			}
		}
	}
}

// R8, R9: contents of few kinds have many corners and proofs that are as good as one another.
func TestAgainOfEqualOnes(t *testing.T) {
	ask(t, func(t *testing.T, d *dice, q question) {
		metals := d.metals(api.MaxAlloyMetals, 500)
		for i := range metals {
			metals[i].Price %= 2
		}
		c := call{metals: metals, touch: d.touch(500), sure: q.sure}
		if first, again := c.all(), c.all(); !slices.Equal(first, again) {
			t.Error(c, first, again)
		}
	})
}

// R10
func TestNothingKept(t *testing.T) {
	d := dice(3)
	var calls []call
	var first [][]result
	for range 60 {
		metals := d.metals(6, 50)
		c := call{metals, d.touch(50), d.upTo(1) == 0, d.mixture(len(metals)), d.upTo(1) == 0, proof(1, 0, 1, 0), 0}
		calls, first = append(calls, c), append(first, c.all())
	}
	for i, c := range slices.Backward(calls) {
		if !slices.Equal(first[i], c.all()) {
			t.Error(c)
		}
	}
}
