package rim_test

import (
	"slices"
	"testing"

	"porringer/api"
	"porringer/rim"
)

// The tests of this file are those of the properties P4.9 to P4.15, and so of P2: each asks many rims. Before them stand
// tests that hold results against what the definitions give, for all small rims and for many large ones.

// checkReadings checks how a rim is turned, read least, and how often it repeats.
func checkReadings(t *testing.T, kinds int, touches []int) {
	t.Helper()
	for by := range touches {
		if turned := mustTurn(t, kinds, touches, by); !slices.Equal(turned, turnedBy(touches, by)) {
			t.Error("Turn", kinds, touches, by, turned)
		}
	}
	least, start := leastOf(touches)
	if got, its := mustLeast(t, kinds, touches); !slices.Equal(got, least) || its != start {
		t.Error("Least", kinds, touches, got, its)
	}
	if period := mustPeriod(t, kinds, touches); period != periodOf(touches) {
		t.Error("Period", kinds, touches, period)
	}
}

// P4.1, P4.2
func TestReadingsByDefinition(t *testing.T) {
	for _, x := range everySmall() {
		if x[1] > 8 {
			continue
		}
		for _, touches := range every(x[0], x[1]) {
			checkReadings(t, x[0], touches)
		}
	}
	ask(t, 1000, func(t *testing.T, _ *dice, kinds int, touches []int) { checkReadings(t, kinds, touches) })
}

// shiftOf returns by the definition the least number by which one rim turned is another one; -1 if there is none.
func shiftOf(one, two []int) int {
	return slices.IndexFunc(upTo(len(one)), func(by int) bool { return slices.Equal(turnedBy(one, by), two) })
}

// checkShift checks by how much one rim is turned to be another one, and tells whether it can be.
func checkShift(t *testing.T, kinds int, one, two []int) bool {
	t.Helper()
	by, want := shiftOf(one, two), api.OK
	if by < 0 {
		by, want = 0, api.ErrEqual
	}
	if got, e := rim.Shift(kinds, one, two); got != by || e != want {
		t.Error("Shift", kinds, one, two, got, e)
	}
	return want == api.OK
}

// P4.3
func TestShiftByDefinition(t *testing.T) {
	for _, x := range [][2]int{{1, 1}, {1, 5}, {2, 1}, {2, 4}, {2, 5}, {2, 6}, {3, 3}, {3, 4}, {4, 3}} {
		all := every(x[0], x[1])
		for _, one := range all {
			for _, two := range all {
				checkShift(t, x[0], one, two)
			}
		}
	}
	same, others := 0, 0
	ask(t, 2000, func(t *testing.T, d *dice, kinds int, one []int) {
		two := turnedBy(one, d.upTo(len(one)-1))
		i, j := d.upTo(len(two)-1), d.upTo(len(two)-1)
		two[i], two[j] = two[j], two[i] // as often as before each touch stands in it
		if checkShift(t, kinds, one, two) {
			same++
		} else {
			others++
		}
	})
	if same < 300 || others < 300 {
		t.Error("too few of one kind:", same, others)
	}
}

// P4.4: of all cuts of a row just those that Words returns are right.
func TestWordsByAll(t *testing.T) {
	check := func(kinds int, row []int) {
		words := mustWords(t, kinds, row)
		many := 0
		for _, cuts := range allCuts(len(row)) {
			right := areRight(row, cuts)
			if e := rim.CheckWords(kinds, row, cuts); right != (e == api.OK) || !right && e != api.ErrSum {
				t.Error("CheckWords", kinds, row, cuts, e)
			}
			if right {
				many++
			}
			if right != slices.Equal(words, cuts) {
				t.Error("Words", kinds, row, cuts, words)
			}
		}
		if many != 1 {
			t.Error(kinds, row, many)
		}
	}
	for _, x := range [][2]int{{1, 1}, {1, 6}, {2, 1}, {2, 2}, {2, 3}, {2, 4}, {2, 5}, {2, 6}, {2, 7}, {3, 4}, {3, 5}, {4, 4}} {
		for _, row := range every(x[0], x[1]) {
			check(x[0], row)
		}
	}
	ask(t, 300, func(t *testing.T, _ *dice, kinds int, row []int) {
		if len(row) <= 11 {
			check(kinds, row)
		}
	})
}

// P4.4, of long rows
func TestWordsAreRight(t *testing.T) {
	ask(t, 2000, func(t *testing.T, d *dice, kinds int, row []int) {
		words := mustWords(t, kinds, row)
		if !areRight(row, words) || rim.CheckWords(kinds, row, words) != api.OK {
			t.Error(words)
		}
		var cuts []int
		for _, at := range append(words, d.upTo(len(row)-1)) {
			if at == 0 || d.upTo(5) > 0 {
				cuts = append(cuts, at)
			}
		}
		cuts = slices.Compact(slices.Sorted(slices.Values(cuts)))
		if e := rim.CheckWords(kinds, row, cuts); slices.Equal(cuts, words) != (e == api.OK) || e != api.OK && e != api.ErrSum {
			t.Error(words, cuts, e)
		}
	})
}

// readings returns by the definition the least readings of all rims, in lexicographic order, and how many are single.
func readings(kinds, touches int) ([][]int, int) {
	seen := map[string]bool{}
	var all [][]int
	single := 0
	for _, rim := range every(kinds, touches) {
		least, _ := leastOf(rim)
		if seen[text(least)] {
			continue
		}
		seen[text(least)] = true
		all = append(all, least)
		if periodOf(least) == touches {
			single++
		}
	}
	slices.SortFunc(all, slices.Compare[[]int])
	return all, single
}

// P4.5, P4.6
func TestCountAndAllByDefinition(t *testing.T) {
	for _, x := range everySmall() {
		all, single := readings(x[0], x[1])
		if many := mustCount(t, x[0], x[1]); many != int64(len(all)) {
			t.Error("Count", x, many, len(all))
		}
		if many := mustSingle(t, x[0], x[1]); many != int64(single) {
			t.Error("Single", x, many, single)
		}
		got, e := rim.All(x[0], x[1])
		if len(all) > api.MaxRimAll {
			if len(got) > 0 || e != api.ErrMany {
				t.Error("All", x, len(got), e)
			}
		} else if !slices.EqualFunc(got, all, slices.Equal[[]int]) || e != api.OK {
			t.Error("All", x, got, e)
		}
	}
}

// P4.5, by how many rims are left as they are when they are turned.
func TestCountByTurns(t *testing.T) {
	divisor := func(a, b int) int {
		for b > 0 {
			a, b = b, a%b
		}
		return a
	}
	for kinds := 1; kinds <= api.MaxRimKinds; kinds++ {
		for touches := 1; touches <= api.MaxRimCount; touches++ {
			same := 0
			for by := range touches {
				same += power(kinds, divisor(touches, by))
			}
			if many := mustCount(t, kinds, touches); many != int64(same/touches) {
				t.Error(kinds, touches, many)
			}
		}
	}
}

// P4.7: CheckRow of all rims of which there are few, and of rows in which two touches are exchanged.
func TestCheckRowByDefinition(t *testing.T) {
	for _, x := range [][3]int{{1, 4, 1}, {2, 1, 2}, {2, 2, 4}, {2, 3, 16}, {3, 1, 6}, {4, 1, 24}, {3, 2, 216}} {
		rows := 0
		for _, touches := range every(x[0], power(x[0], x[1])) {
			want := api.ErrSum
			if isRow(x[0], x[1], touches) {
				want = api.OK
				rows++
			}
			if e := rim.CheckRow(x[0], x[1], touches); e != want {
				t.Error(x, touches, e)
			}
		}
		if rows != x[2] {
			t.Error(x, rows)
		}
	}
	d := dice(2)
	for _, x := range rowLengths() {
		for range 50 {
			row := mustRow(t, x[0], x[1])
			i, j := d.upTo(len(row)-1), d.upTo(len(row)-1)
			row[i], row[j] = row[j], row[i]
			if e := rim.CheckRow(x[0], x[1], row); isRow(x[0], x[1], row) != (e == api.OK) || e != api.OK && e != api.ErrSum {
				t.Error(x, row, e)
			}
		}
	}
}

// P4.7: Row by its words.
func TestRowByWords(t *testing.T) {
	for _, x := range rowLengths() {
		var words [][]int
		for length := 1; length <= x[1]; length++ {
			if x[1]%length == 0 {
				words = slices.Concat(words, slices.DeleteFunc(every(x[0], length), func(list []int) bool { return !isWord(list) }))
			}
		}
		slices.SortFunc(words, slices.Compare[[]int])
		if row := mustRow(t, x[0], x[1]); !slices.Equal(row, slices.Concat(words...)) {
			t.Error(x, row)
		}
	}
}

// P4.8
func TestFindByDefinition(t *testing.T) {
	found, nowhere := 0, 0
	ask(t, 3000, func(t *testing.T, d *dice, kinds int, touches []int) {
		from := d.upTo(len(touches) - 1)
		list := turnedBy(touches, from)[:1+d.upTo(len(touches)-1)]
		if d.upTo(1) == 0 {
			list[d.upTo(len(list)-1)] = d.upTo(kinds - 1)
		}
		at := slices.IndexFunc(upTo(len(touches)), func(at int) bool { return stands(touches, list, at) })
		want := api.OK
		if at < 0 {
			at, want = 0, api.ErrNone
			nowhere++
		} else {
			found++
		}
		if got, e := rim.Find(kinds, touches, list); got != at || e != want {
			t.Error(list, got, e)
		}
	})
	if found < 300 || nowhere < 300 {
		t.Error("too few of one kind:", found, nowhere)
	}
}

// P4.9
func TestEither(t *testing.T) {
	same, others := 0, 0
	ask(t, 2000, func(t *testing.T, d *dice, kinds int, one []int) {
		two := turnedBy(one, d.upTo(len(one)-1))
		if d.upTo(1) == 0 {
			two[d.upTo(len(two)-1)] = d.upTo(kinds - 1)
		}
		least, _ := mustLeast(t, kinds, one)
		other, _ := mustLeast(t, kinds, two)
		by, e := rim.Shift(kinds, one, two)
		if slices.Equal(least, other) != (e == api.OK) || e != api.OK && e != api.ErrEqual {
			t.Error(two, least, other, e)
		}
		if e != api.OK {
			others++
			return
		}
		same++
		back := (len(one) - by) % len(one)
		if !slices.Equal(mustTurn(t, kinds, one, by), two) || !slices.Equal(mustTurn(t, kinds, two, back), one) {
			t.Error(two, by)
		}
	})
	if same < 300 || others < 300 {
		t.Error("too few of one kind:", same, others)
	}
}

// P4.10
func TestPeriod(t *testing.T) {
	several := 0
	ask(t, 2000, func(t *testing.T, _ *dice, kinds int, touches []int) {
		period := mustPeriod(t, kinds, touches)
		if period < 1 || len(touches)%period != 0 {
			t.Fatal(period)
		}
		different := map[string]bool{}
		for by := range touches {
			turned := mustTurn(t, kinds, touches, by)
			different[text(turned)] = true
			if slices.Equal(turned, touches) != (by%period == 0) {
				t.Error(period, by)
			}
		}
		if len(different) != period {
			t.Error(period, len(different))
		}
		if period > 1 && period < len(touches) {
			several++
		}
	})
	if several < 200 {
		t.Error("too few with several periods:", several)
	}
}

// P4.11: the first word of a least reading, and the last word of a row.
func TestFirstAndLastWord(t *testing.T) {
	single := 0
	ask(t, 2000, func(t *testing.T, _ *dice, kinds int, row []int) {
		least, _ := mustLeast(t, kinds, row)
		words, period := mustWords(t, kinds, least), mustPeriod(t, kinds, row)
		if len(words) != len(row)/period || len(words) > 1 && words[1] != period {
			t.Error(least, words, period)
		}
		if period == len(row) {
			single++
		}
		words = mustWords(t, kinds, row)
		last := row[words[len(words)-1]:]
		for from := range row {
			if slices.Compare(row[from:], last) < 0 {
				t.Error(words, from)
			}
		}
	})
	if single < 200 {
		t.Error("too few that are single:", single)
	}
}

// P4.11: words put together.
func TestWordsPutTogether(t *testing.T) {
	d := dice(3)
	for i := range 1500 {
		kinds := 1 + i%api.MaxRimKinds
		var words [][]int
		for range 1 + d.upTo(7) {
			list := d.rim(kinds, 1+d.upTo(7))
			if word, _ := leastOf(list); isWord(word) {
				words = append(words, word)
			}
		}
		if len(words) == 0 {
			continue
		}
		slices.SortFunc(words, func(one, other []int) int { return slices.Compare(other, one) })
		var row, cuts []int
		for _, word := range words {
			cuts = append(cuts, len(row))
			row = append(row, word...)
		}
		if got := mustWords(t, kinds, row); !slices.Equal(got, cuts) || rim.CheckWords(kinds, row, cuts) != api.OK {
			t.Fatal(words, got)
		}
	}
}

// P4.12
func TestCounted(t *testing.T) {
	for kinds := 1; kinds <= api.MaxRimKinds; kinds++ {
		for touches := 1; touches <= api.MaxRimCount; touches++ {
			var rows, rims int64
			for length := 1; length <= touches; length++ {
				if touches%length == 0 {
					rows += int64(length) * mustSingle(t, kinds, length)
					rims += mustSingle(t, kinds, length)
				}
			}
			if rows != int64(power(kinds, touches)) || rims != mustCount(t, kinds, touches) {
				t.Error(kinds, touches, rows, rims)
			}
		}
	}
}

// P4.13
func TestAllAreDifferent(t *testing.T) {
	d := dice(4)
	for kinds := 1; kinds <= api.MaxRimKinds; kinds++ {
		for touches := 1; touches <= api.MaxRimCount; touches++ {
			many := mustCount(t, kinds, touches)
			all, e := rim.All(kinds, touches)
			if (many > api.MaxRimAll) != (e == api.ErrMany) {
				t.Fatal(kinds, touches, many, e)
			}
			if e == api.ErrMany {
				continue
			}
			if int64(len(all)) != many || e != api.OK {
				t.Error(kinds, touches, many, len(all), e)
			}
			for i, one := range all {
				least, start := mustLeast(t, kinds, one)
				if len(one) != touches || !slices.Equal(least, one) || start != 0 {
					t.Error(kinds, touches, one)
				}
				if i > 0 && slices.Compare(all[i-1], one) >= 0 {
					t.Error(kinds, touches, all[i-1], one)
				}
			}
			for range 50 {
				least, _ := mustLeast(t, kinds, d.rim(kinds, touches))
				if !slices.ContainsFunc(all, func(one []int) bool { return slices.Equal(one, least) }) {
					t.Error(kinds, touches, least)
				}
			}
		}
	}
}

// P4.14
func TestRowTurned(t *testing.T) {
	for _, x := range rowLengths() {
		row := mustRow(t, x[0], x[1])
		if !isRow(x[0], x[1], row) {
			t.Error(x, row)
		}
		for by := range row {
			if e := rim.CheckRow(x[0], x[1], mustTurn(t, x[0], row, by)); e != api.OK {
				t.Error(x, row, by, e)
			}
		}
		for _, list := range every(x[0], x[1]) {
			at, e := rim.Find(x[0], row, list)
			if len(list) > len(row) {
				if e != api.ErrRange {
					t.Error(x, row, list, e)
				}
				continue
			}
			if e != api.OK || !stands(row, list, at) {
				t.Error(x, row, list, at, e)
			}
		}
	}
}

// firstRow returns the first row of a length, in lexicographic order, by trying all touches one after another.
func firstRow(kinds, length int) []int {
	touches := power(kinds, length)
	var next func(row []int, seen map[string]bool) []int
	next = func(row []int, seen map[string]bool) []int {
		if len(row) == touches {
			if isRow(kinds, length, row) {
				return row
			}
			return nil
		}
		for touch := range kinds {
			longer := append(slices.Clone(row), touch)
			key := ""
			if len(longer) >= length {
				key = text(longer[len(longer)-length:])
			}
			if key != "" && seen[key] {
				continue
			}
			seen[key] = true
			if found := next(longer, seen); found != nil {
				return found
			}
			delete(seen, key)
		}
		return nil
	}
	return next(nil, map[string]bool{})
}

// P4.14: no row of the length is less.
func TestRowIsLeast(t *testing.T) {
	for _, x := range rowLengths() {
		if row := mustRow(t, x[0], x[1]); !slices.Equal(row, firstRow(x[0], x[1])) {
			t.Error(x, row)
		}
	}
}

// P4.15: a rim that is put to itself.
func TestPutToItself(t *testing.T) {
	ask(t, 2000, func(t *testing.T, d *dice, kinds int, touches []int) {
		times := 1 + d.upTo(api.MaxRimTouches/len(touches)-1)
		longer := slices.Repeat(touches, times)
		if one, other := mustPeriod(t, kinds, touches), mustPeriod(t, kinds, longer); one != other {
			t.Error(times, one, other)
		}
		least, start := mustLeast(t, kinds, touches)
		if got, its := mustLeast(t, kinds, longer); !slices.Equal(got, slices.Repeat(least, times)) || its != start {
			t.Error(times, least, got)
		}
	})
}

// P4.15: touches that are exchanged by greater ones in the same order.
func TestExchanged(t *testing.T) {
	for _, greater := range [][]int{{1, 2, 3}, {0, 2, 3}, {0, 1, 3}, {2, 3}, {1, 3}, {0, 3}, {1, 2}, {3}} {
		d := dice(5)
		for range 200 {
			touches := d.rims(len(greater), api.MaxRimTouches)
			others := make([]int, len(touches))
			for i, touch := range touches {
				others[i] = greater[touch]
			}
			if one, other := mustWords(t, len(greater), touches), mustWords(t, api.MaxRimKinds, others); !slices.Equal(one, other) {
				t.Error(greater, touches, one, other)
			}
			if one, other := mustPeriod(t, len(greater), touches), mustPeriod(t, api.MaxRimKinds, others); one != other {
				t.Error(greater, touches, one, other)
			}
			for _, cuts := range [][]int{mustWords(t, len(greater), touches), list(0), upTo(len(touches))} {
				one, other := rim.CheckWords(len(greater), touches, cuts), rim.CheckWords(api.MaxRimKinds, others, cuts)
				if one != other {
					t.Error(greater, touches, cuts, one, other)
				}
			}
		}
	}
}
