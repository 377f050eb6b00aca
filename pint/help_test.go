package pint_test

import (
	"slices"
	"testing"

	"porringer/api"
	"porringer/pint"
)

func list(numbers ...int64) []int64 { return numbers }

func from(lo, hi int64) api.Range { return api.Range{Lo: lo, Hi: hi} }

// measure returns one with the left side, the right side, and the heights of its places.
func measure(left, right int64, heights ...int64) api.PintMeasure {
	return api.PintMeasure{Left: left, Right: right, Heights: heights}
}

// even returns a measure with so many places, all of the same height.
func even(left, right, height int64, places int) api.PintMeasure {
	return measure(left, right, slices.Repeat(list(height), places)...)
}

// dented returns a dented measure with the left side, the right side, and the bounds of each place, one after another.
func dented(left, right int64, bounds ...int64) api.PintDented {
	d := api.PintDented{Left: left, Right: right}
	for pair := range slices.Chunk(bounds, 2) {
		d.Heights = append(d.Heights, from(pair[0], pair[1]))
	}
	return d
}

// chapterM and chapterD are the measures M and D of the chapter's examples.
func chapterM() api.PintMeasure { return measure(5, 4, 0, 3, 0) }
func chapterD() api.PintDented  { return dented(5, 4, 0, 1, 2, 4, 0, 0) }

// leap is a dented measure that holds 0 or 2, but never 1.
func leap() api.PintDented { return dented(100, 0, 0, 0, 0, 0, 0, 1) }

// wide is a dented measure with as many truths as there can be.
func wide() api.PintDented { return dented(60, 70, 40, 50, 0, 10, 45, 55, 3, 13) }

// dice makes numbers that look as if by chance, but are the same in each run.
type dice uint64

func (d *dice) upTo(most int) int {
	*d = *d*6364136223846793005 + 1442695040888963407
	return int(uint64(*d)>>33) % (most + 1)
}

func (d *dice) height(most int) int64 { return int64(d.upTo(most)) }

// tilt returns one, often a small one, or none.
func (d *dice) tilt() int64 {
	most := []int{0, 2, api.MaxPintTilt}[d.upTo(2)]
	return int64(d.upTo(2*most) - most)
}

// measure returns one with up to so many places, of which none, nor a side, is higher than most.
func (d *dice) measure(places, most int) api.PintMeasure {
	m := measure(d.height(most), d.height(most))
	for range 1 + d.upTo(places-1) {
		m.Heights = append(m.Heights, d.height(most))
	}
	return m
}

// dented returns a dented measure, with bounds that are up to so far apart.
func (d *dice) dented(apart, most int) api.PintDented {
	one := dented(d.height(most), d.height(most))
	for _, lo := range d.measure(api.MaxPintDents, most).Heights {
		one.Heights = append(one.Heights, from(lo, min(lo+d.height(apart), api.MaxPintHeight)))
	}
	return one
}

// asked returns a range that often has some of the numbers that a measure holds, but not all.
func (d *dice) asked(numbers []int64) api.Range {
	one, other := numbers[d.upTo(len(numbers)-1)], numbers[d.upTo(len(numbers)-1)]
	lo := min(one, other) + d.height(4) - 2
	return from(lo, max(lo, max(one, other)+d.height(4)-2))
}

// ask calls a check with many measures, low ones and high ones.
func ask(t *testing.T, many int, check func(t *testing.T, d *dice, m api.PintMeasure, tilt int64)) {
	t.Helper()
	d := dice(1)
	for i := range many {
		m, tilt := d.measure(api.MaxPintPlaces, []int{2, 9, api.MaxPintHeight}[i%3]), d.tilt()
		check(t, &d, m, tilt)
		if t.Failed() {
			t.Fatalf("measure %d: %v at the tilt %d", i, m, tilt)
		}
	}
}

// askDented calls a check with many dented measures.
func askDented(t *testing.T, many int, check func(t *testing.T, d *dice, one api.PintDented, tilt int64)) {
	t.Helper()
	d := dice(2)
	for i := range many {
		one, tilt := d.dented(1+i%4, []int{2, 9, api.MaxPintHeight}[i%3]), d.tilt()
		check(t, &d, one, tilt)
		if t.Failed() {
			t.Fatalf("dented measure %d: %v at the tilt %d", i, one, tilt)
		}
	}
}

// tilted returns the heights at a tilt: that of the left side, those of all places, and that of the right side.
func tilted(m api.PintMeasure, tilt int64) []int64 {
	all := slices.Concat(list(m.Left), m.Heights, list(m.Right))
	for i := range all {
		all[i] += tilt * int64(i-1)
	}
	return all
}

// edges returns by the definition both heights of which the level of a place is the lesser one.
func edges(m api.PintMeasure, tilt int64, place int) (int64, int64) {
	all := tilted(m, tilt)
	return slices.Max(all[:place+2]), slices.Max(all[place+1:])
}

// levelsOf returns by the definition the level of each place.
func levelsOf(m api.PintMeasure, tilt int64) []int64 {
	var levels []int64
	for place := range m.Heights {
		levels = append(levels, min(edges(m, tilt, place)))
	}
	return levels
}

// depthsOf returns by the definition the depth of each place.
func depthsOf(m api.PintMeasure, tilt int64) []int64 {
	all := tilted(m, tilt)
	depths := levelsOf(m, tilt)
	for place := range depths {
		depths[place] -= all[place+1]
	}
	return depths
}

// flooded returns the depth of each place, by another way than the definition: the measure is filled above everything, and
// from each place runs out what neither neighbour keeps in, until nothing more does.
func flooded(m api.PintMeasure, tilt int64) []int64 {
	all := tilted(m, tilt)
	last := len(all) - 1
	levels := slices.Repeat(list(slices.Max(all)), last+1)
	levels[0], levels[last] = all[0], all[last]
	for still := false; !still; {
		still = true
		for i := 1; i < last; i++ {
			if level := max(all[i], min(levels[i-1], levels[i+1])); level != levels[i] {
				levels[i], still = level, false
			}
		}
	}
	for i := range levels {
		levels[i] -= all[i]
	}
	return levels[1:last]
}

func sum(numbers []int64) int64 {
	var sum int64
	for _, number := range numbers {
		sum += number
	}
	return sum
}

// arePool tells by the definition whether places are a pool, but for that it cannot be made longer.
func arePool(m api.PintMeasure, tilt int64, first, last int) bool {
	if first < 0 || last >= len(m.Heights) {
		return false
	}
	levels, depths := levelsOf(m, tilt), depthsOf(m, tilt)
	for place := first; place <= last; place++ {
		if depths[place] == 0 || levels[place] != levels[first] {
			return false
		}
	}
	return true
}

// poolsOf returns by the definition all pools.
func poolsOf(m api.PintMeasure, tilt int64) [][2]int {
	var pools [][2]int
	for first := range m.Heights {
		for last := first; last < len(m.Heights); last++ {
			if arePool(m, tilt, first, last) && !arePool(m, tilt, first-1, last) && !arePool(m, tilt, first, last+1) {
				pools = append(pools, [2]int{first, last})
			}
		}
	}
	return pools
}

// wallOf returns by the definition the wall of a place among numbers from the nearest one to that of a side.
func wallOf(m api.PintMeasure, tilt int64, place, side int) int {
	all := tilted(m, tilt)
	step := 1
	if side < place {
		step = -1
	}
	wall := place
	for number := place; number != side+step; number += step {
		if all[number+1] > all[wall+1] {
			wall = number
		}
	}
	return wall
}

// bestOf returns by the definition the place that is best beaten out, and how much more the measure then holds.
func bestOf(m api.PintMeasure, tilt int64) (int, int64) {
	var more []int64
	for place := range m.Heights {
		beaten := cloned(m)
		beaten.Heights[place] = 0
		more = append(more, sum(depthsOf(beaten, tilt))-sum(depthsOf(m, tilt)))
	}
	return slices.Index(more, slices.Max(more)), slices.Max(more)
}

func cloned(m api.PintMeasure) api.PintMeasure {
	m.Heights = slices.Clone(m.Heights)
	return m
}

// behind returns the measure seen from behind.
func behind(m api.PintMeasure) api.PintMeasure {
	turned := measure(m.Right, m.Left, slices.Clone(m.Heights)...)
	slices.Reverse(turned.Heights)
	return turned
}

// changed returns the measure with all heights, and those of the sides, changed.
func changed(m api.PintMeasure, change func(height int64) int64) api.PintMeasure {
	other := measure(change(m.Left), change(m.Right))
	for _, height := range m.Heights {
		other.Heights = append(other.Heights, change(height))
	}
	return other
}

// highest returns the greatest one of all heights, and of those of the sides.
func highest(m api.PintMeasure) int64 {
	return slices.Max(append(slices.Clone(m.Heights), m.Left, m.Right))
}

// truthsOf returns all truths.
func truthsOf(d api.PintDented) [][]int64 {
	truths := [][]int64{nil}
	for _, r := range d.Heights {
		var longer [][]int64
		for _, truth := range truths {
			for height := r.Lo; height <= r.Hi; height++ {
				longer = append(longer, append(slices.Clone(truth), height))
			}
		}
		truths = longer
	}
	return truths
}

// numbersOf returns by the definition what a dented measure holds in all truths.
func numbersOf(d api.PintDented, tilt int64) []int64 {
	var numbers []int64
	for _, truth := range truthsOf(d) {
		numbers = append(numbers, sum(depthsOf(measure(d.Left, d.Right, truth...), tilt)))
	}
	return numbers
}

// isTruth tells by the definition whether heights are a truth.
func isTruth(d api.PintDented, heights []int64) bool {
	return slices.EqualFunc(heights, d.Heights, func(height int64, r api.Range) bool { return height >= r.Lo && height <= r.Hi })
}

// among tells how many of some numbers are within a range.
func among(numbers []int64, asked api.Range) int {
	many := 0
	for _, number := range numbers {
		if number >= asked.Lo && number <= asked.Hi {
			many++
		}
	}
	return many
}

// sealOf returns whether a measure that holds one of some numbers may be sealed.
func sealOf(numbers []int64, asked api.Range) int {
	switch among(numbers, asked) {
	case 0:
		return api.PintNever
	case len(numbers):
		return api.PintAlways
	}
	return api.PintMay
}

func mustDepths(t *testing.T, m api.PintMeasure, tilt int64) []int64 {
	t.Helper()
	depths, e := pint.Depths(m, tilt)
	if e != api.OK || len(depths) != len(m.Heights) {
		t.Fatal(m, tilt, depths, e)
	}
	return depths
}

func mustHolds(t *testing.T, m api.PintMeasure, tilt int64) int64 {
	t.Helper()
	number, e := pint.Holds(m, tilt)
	if e != api.OK {
		t.Fatal(m, tilt, e)
	}
	return number
}

func mustPools(t *testing.T, m api.PintMeasure, tilt int64) [][2]int {
	t.Helper()
	pools, e := pint.Pools(m, tilt)
	if e != api.OK {
		t.Fatal(m, tilt, e)
	}
	return pools
}

func mustWalls(t *testing.T, m api.PintMeasure, tilt int64, place int) (int, int) {
	t.Helper()
	left, right, e := pint.Walls(m, tilt, place)
	if e != api.OK {
		t.Fatal(m, tilt, place, e)
	}
	return left, right
}

func mustOut(t *testing.T, m api.PintMeasure, tilt int64, place, side int) int64 {
	t.Helper()
	depth, e := pint.CheckOut(m, tilt, place, side)
	if e != api.OK {
		t.Fatal(m, tilt, place, side, e)
	}
	return depth
}

func mustSpan(t *testing.T, d api.PintDented, tilt int64) api.Range {
	t.Helper()
	span, e := pint.Span(d, tilt)
	if e != api.OK {
		t.Fatal(d, tilt, e)
	}
	return span
}

func mustSeal(t *testing.T, d api.PintDented, tilt int64, asked api.Range) int {
	t.Helper()
	sealed, e := pint.Seal(d, tilt, asked)
	if e != api.OK {
		t.Fatal(d, tilt, asked, e)
	}
	return sealed
}
