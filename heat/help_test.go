package heat_test

import (
	"slices"
	"strings"
	"testing"

	"porringer/api"
	"porringer/heat"
)

func list(numbers ...int) []int { return numbers }

func span(lo, hi int64) api.Range { return api.Range{Lo: lo, Hi: hi} }

func ratio(num, den int64) api.Ratio { return api.Ratio{Num: num, Den: den} }

// mould returns one with casts, waits, and bounds.
func mould(casts, waits []int, lo, hi int) api.HeatMould {
	return api.HeatMould{Casts: casts, Waits: waits, Lo: lo, Hi: hi}
}

// chapterM and chapterN are the moulds M and N of the chapter's examples.
func chapterM() api.HeatMould {
	return mould(list(2, 3, 4, 5, 6, 7, 7, 7), list(0, 0, 1, 1, 2, 3, 4, 4), 2, 5)
}

func chapterN() api.HeatMould {
	return mould(list(2, 3, 4, 5, 6, 7, 7, 7), list(0, 0, 1, 1, 2, 3, 6, 6), 4, 5)
}

// slowMould has as many heats as there can be. A cast makes it the hottest, and is possible only at the coolest of them.
func slowMould() api.HeatMould {
	return mould(slices.Repeat(list(15), 16), list(0, 0, 1, 2, 3, 4, 5, 6, 7, 8, 9, 10, 11, 12, 13, 14), 0, 0)
}

// coldMould becomes hotter by one heat a cast, and stays as hot as it is.
func coldMould() api.HeatMould {
	return mould(list(1, 2, 3, 4, 5, 6, 7, 8, 9, 10, 11, 12, 13, 14, 15, 15), list(0, 1, 2, 3, 4, 5, 6, 7, 8, 9, 10, 11, 12, 13, 14, 15), 0, 14)
}

// oddMould becomes hotter by two heats a cast, and cooler by three a wait.
func oddMould() api.HeatMould {
	return mould(list(2, 3, 4, 5, 6, 7, 7, 7), list(0, 0, 0, 0, 1, 2, 3, 4), 0, 5)
}

// cloned returns a copy of a mould with memory of its own.
func cloned(m api.HeatMould) api.HeatMould {
	m.Casts, m.Waits = slices.Clone(m.Casts), slices.Clone(m.Waits)
	return m
}

func sameMould(one, other api.HeatMould) bool {
	return slices.Equal(one.Casts, other.Casts) && slices.Equal(one.Waits, other.Waits) && one.Lo == other.Lo && one.Hi == other.Hi
}

// dice makes numbers that look as if by chance, but are the same in each run.
type dice uint64

func (d *dice) upTo(most int) int {
	*d = *d*6364136223846793005 + 1442695040888963407
	return int(uint64(*d)>>33) % (most + 1)
}

// mould returns a valid one with so many heats. Bounds up to the hottest heat, with which casts have no end, are rare. Some
// moulds become hotter, and cooler, by the same numbers at all heats; of others few heats change at all.
func (d *dice) mould(heats int) api.HeatMould {
	m := mould(make([]int, heats), make([]int, heats), 0, 0)
	up, down := d.upTo(6), d.upTo(5)
	rarelyUp, rarelyDown := d.upTo(1), d.upTo(4)
	even := d.upTo(3) == 0
	for h := range heats {
		m.Casts[h], m.Waits[h] = h, h
		if even {
			m.Casts[h], m.Waits[h] = min(h+1+up, heats-1), max(h-1-down, 0)
			continue
		}
		if d.upTo(rarelyUp) == 0 {
			m.Casts[h] = min(h+1+d.upTo(up), heats-1)
		}
		if d.upTo(rarelyDown) == 0 {
			m.Waits[h] = max(h-1-d.upTo(down), 0)
		}
	}
	slices.Sort(m.Casts)
	slices.Sort(m.Waits)
	hottest := heats - 1
	if hottest > 0 && d.upTo(7) > 0 {
		hottest--
	}
	m.Hi = d.upTo(hottest)
	m.Lo = d.upTo(d.upTo(m.Hi))
	return m
}

// plan returns one with up to so many letters. Waits are rarer than casts.
func (d *dice) plan(most int) string {
	var plan strings.Builder
	for range d.upTo(most) {
		plan.WriteByte("ccw"[d.upTo(2)])
	}
	return plan.String()
}

// works returns a plan with up to so many letters that works from a heat.
func (d *dice) works(m api.HeatMould, from, most int) string {
	var plan strings.Builder
	for range d.upTo(most) {
		if from >= m.Lo && from <= m.Hi && d.upTo(3) > 0 {
			plan.WriteByte('c')
			from = m.Casts[from]
		} else {
			plan.WriteByte('w')
			from = m.Waits[from]
		}
	}
	return plan.String()
}

// span returns a range of the heats of a mould. It is narrow more often than wide.
func (d *dice) span(m api.HeatMould) api.Range {
	lo := d.upTo(len(m.Casts) - 1)
	return span(int64(lo), int64(lo+d.upTo(d.upTo(len(m.Casts)-1-lo))))
}

// risingLists returns all lists of so many numbers below it, each at least the one before it, and at least its index.
func risingLists(many int) [][]int {
	all := [][]int{nil}
	for index := range many {
		var longer [][]int
		for _, begun := range all {
			for number := index; number < many; number++ {
				if index == 0 || number >= begun[index-1] {
					longer = append(longer, append(slices.Clone(begun), number))
				}
			}
		}
		all = longer
	}
	return all
}

// fallingLists returns the lists that risingLists returns, turned round: each number is at most its index.
func fallingLists(many int) [][]int {
	all := risingLists(many)
	for _, numbers := range all {
		slices.Reverse(numbers)
		for i, number := range numbers {
			numbers[i] = many - 1 - number
		}
	}
	return all
}

// everySmall calls a function with all valid moulds of up to so many heats.
func everySmall(most int, visit func(m api.HeatMould)) {
	for heats := 1; heats <= most; heats++ {
		for _, casts := range risingLists(heats) {
			for _, waits := range fallingLists(heats) {
				for hi := range heats {
					for lo := range hi + 1 {
						visit(mould(slices.Clone(casts), slices.Clone(waits), lo, hi))
					}
				}
			}
		}
	}
}

// ask calls a check with many moulds, of few and of many heats.
func ask(t *testing.T, many int, check func(t *testing.T, d *dice, m api.HeatMould)) {
	t.Helper()
	d := dice(1)
	for i := range many {
		m := d.mould([]int{4, 7, 11, api.MaxHeatDegrees}[i%4] - d.upTo(2))
		check(t, &d, m)
		if t.Failed() {
			t.Fatalf("mould %d: %v", i, m)
		}
	}
}

// askAll calls a check with all small moulds, and with many others.
func askAll(t *testing.T, small, many int, check func(t *testing.T, d *dice, m api.HeatMould)) {
	t.Helper()
	d := dice(2)
	everySmall(small, func(m api.HeatMould) {
		if !t.Failed() {
			check(t, &d, m)
			if t.Failed() {
				t.Log(m)
			}
		}
	})
	ask(t, many, check)
}

// runOf returns by the definition the heat behind a plan and its casts, and false if the plan does not work.
func runOf(m api.HeatMould, from int, plan string) (int, int, bool) {
	casts := 0
	for _, letter := range plan {
		switch {
		case letter == 'w':
			from = m.Waits[from]
		case from < m.Lo || from > m.Hi:
			return 0, 0, false
		default:
			from = m.Casts[from]
			casts++
		}
	}
	return from, casts, true
}

// planOf returns by the definition the first plan with the fewest waits that has so many casts and works from each one of
// some heats, and false if there is none. It looks for how many waits stand before each cast: fewer ones come later.
func planOf(m api.HeatMould, from []int, casts int) (string, bool) {
	return planBy(m, from, casts, map[string]string{})
}

// planBy is planOf, with what it found before: the plans, or "none".
func planBy(m api.HeatMould, from []int, casts int, known map[string]string) (string, bool) {
	if casts == 0 {
		return "", true
	}
	key := string([]byte{byte(casts)})
	for _, h := range from {
		key += string([]byte{byte(h)})
	}
	if plan, found := known[key]; found {
		return plan, plan != "none"
	}
	best, found := "none", false
	heats := slices.Clone(from)
	for waits := range 2 * api.MaxHeatDegrees {
		if !slices.ContainsFunc(heats, func(h int) bool { return h < m.Lo || h > m.Hi }) {
			behind := slices.Clone(heats)
			for i, h := range behind {
				behind[i] = m.Casts[h]
			}
			rest, works := planBy(m, behind, casts-1, known)
			if plan := strings.Repeat("w", waits) + "c" + rest; works && (!found || len(plan) < len(best)) {
				best, found = plan, true
			}
		}
		for i, h := range heats {
			heats[i] = m.Waits[h]
		}
	}
	known[key] = best
	return best, found
}

// reach tells which heats plans lead to from each one, by Warshall's way.
func reach(m api.HeatMould) [][]bool {
	heats := len(m.Casts)
	all := make([][]bool, heats)
	for h := range all {
		all[h] = make([]bool, heats)
		all[h][h] = true
		all[h][m.Waits[h]] = true
		if h >= m.Lo && h <= m.Hi {
			all[h][m.Casts[h]] = true
		}
	}
	for by := range all {
		for one := range all {
			for other := range all {
				all[one][other] = all[one][other] || all[one][by] && all[by][other]
			}
		}
	}
	return all
}

// mostOf returns by the definition for each heat the most casts of plans from it, or -1 if they have any number of casts:
// if they lead to a heat at which a cast is possible from which they lead back to it.
func mostOf(m api.HeatMould) []int {
	leads := reach(m)
	most := make([]int, len(m.Casts))
	for from := range most {
		for h := m.Lo; h <= m.Hi; h++ {
			if leads[from][h] && leads[m.Casts[h]][h] {
				most[from] = -1
			}
		}
	}
	known := map[int]int{}
	var longest func(from int) int
	longest = func(from int) int {
		many, found := known[from]
		for h := m.Lo; h <= m.Hi && !found; h++ {
			if leads[from][h] {
				many = max(many, 1+longest(m.Casts[h]))
			}
		}
		known[from] = many
		return many
	}
	for from := range most {
		if most[from] == 0 {
			most[from] = longest(from)
		}
	}
	return most
}

// isRate tells by the definition whether a rate is that of a heat. If a wait costs its Den, and a cast costs its Num less
// than nothing, then a round that is better than it costs less than nothing, and one that is as good costs nothing. The
// least costs between heats are found by Floyd's way.
func isRate(m api.HeatMould, from int, r api.Ratio) bool {
	const far = 1 << 40
	leads := reach(m)[from]
	costs := make([][]int64, len(m.Casts))
	for h := range costs {
		costs[h] = slices.Repeat([]int64{far}, len(costs))
		if leads[h] {
			costs[h][m.Waits[h]] = r.Den
		}
		if leads[h] && h >= m.Lo && h <= m.Hi {
			costs[h][m.Casts[h]] = min(costs[h][m.Casts[h]], -r.Num)
		}
	}
	for by := range costs {
		for one := range costs {
			for other := range costs {
				costs[one][other] = min(costs[one][other], costs[one][by]+costs[by][other])
			}
			if costs[one][one] < 0 {
				return false
			}
		}
	}
	for h := m.Lo; h <= m.Hi; h++ {
		if leads[h] && (m.Casts[h] == h && r.Num == 0 || costs[m.Casts[h]][h] == r.Num) {
			return true
		}
	}
	return false
}

// rateBefore reports whether one rate is less than another one.
func rateBefore(one, other api.Ratio) bool { return one.Num*other.Den < other.Num*one.Den }

func mustFewest(t *testing.T, m api.HeatMould, from, casts int) int {
	t.Helper()
	waits, e := heat.Fewest(m, from, casts)
	if e != api.OK {
		t.Fatal(m, from, casts, e)
	}
	return waits
}
