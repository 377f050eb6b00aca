package rim_test

import (
	"slices"
	"strconv"
	"testing"

	"porringer/api"
	"porringer/rim"
)

func list(numbers ...int) []int { return numbers }

// chapterR and chapterS are the rims R and S of the chapter's examples.
func chapterR() []int { return list(1, 0, 1, 0, 0) }
func chapterS() []int { return list(0, 1, 0, 1) }

// even returns a rim with so many touches, all of them the same.
func even(touch, touches int) []int { return slices.Repeat(list(touch), touches) }

// upTo returns all numbers below n.
func upTo(n int) []int {
	numbers := make([]int, n)
	for i := range numbers {
		numbers[i] = i
	}
	return numbers
}

// dice makes numbers that look as if by chance, but are the same in each run.
type dice uint64

func (d *dice) upTo(most int) int {
	*d = *d*6364136223846793005 + 1442695040888963407
	return int(uint64(*d)>>33) % (most + 1)
}

// rim returns one of so many touches.
func (d *dice) rim(kinds, touches int) []int {
	rim := make([]int, touches)
	for i := range rim {
		rim[i] = d.upTo(kinds - 1)
	}
	return rim
}

// rims returns up to so many rims put together; often some of them are the same, so that rims come that are not single.
func (d *dice) rims(kinds, most int) []int {
	piece := d.rim(kinds, 1+d.upTo(min(most, 7)-1))
	rim := slices.Repeat(piece, 1+d.upTo(most/len(piece)-1))
	if d.upTo(2) == 0 {
		rim[d.upTo(len(rim)-1)] = d.upTo(kinds - 1)
	}
	return rim
}

// ask calls a check with many rims, short ones and long ones, of each number of kinds.
func ask(t *testing.T, many int, check func(t *testing.T, d *dice, kinds int, rim []int)) {
	t.Helper()
	d := dice(1)
	for i := range many {
		kinds := 1 + i%api.MaxRimKinds
		most := []int{6, 20, api.MaxRimTouches}[i%3]
		rim := d.rims(kinds, most)
		if i%5 == 0 {
			rim = d.rim(kinds, 1+d.upTo(most-1))
		}
		check(t, &d, kinds, rim)
		if t.Failed() {
			t.Fatalf("rim %d: %d %v", i, kinds, rim)
		}
	}
}

// every returns all rims of so many touches, in lexicographic order.
func every(kinds, touches int) [][]int {
	all := [][]int{nil}
	for range touches {
		var longer [][]int
		for _, rim := range all {
			for touch := range kinds {
				longer = append(longer, append(slices.Clone(rim), touch))
			}
		}
		all = longer
	}
	return all
}

// everySmall returns the numbers of kinds and touches of which all rims are quickly looked at.
func everySmall() [][2]int {
	var small [][2]int
	for kinds := 1; kinds <= api.MaxRimKinds; kinds++ {
		for touches := 1; touches <= api.MaxRimCount; touches++ {
			if power(kinds, touches) <= 5000 {
				small = append(small, [2]int{kinds, touches})
			}
		}
	}
	return small
}

func power(kinds, touches int) int {
	if touches == 0 {
		return 1
	}
	return kinds * power(kinds, touches-1)
}

// turnedBy returns by the definition a rim turned by a number.
func turnedBy(rim []int, by int) []int {
	turned := make([]int, len(rim))
	for i := range turned {
		turned[i] = rim[(by+i)%len(rim)]
	}
	return turned
}

// leastOf returns by the definition the least reading of a rim, and its start.
func leastOf(rim []int) ([]int, int) {
	least, start := rim, 0
	for by := range rim {
		if turned := turnedBy(rim, by); slices.Compare(turned, least) < 0 {
			least, start = turned, by
		}
	}
	return least, start
}

// periodOf returns by the definition the period of a rim.
func periodOf(rim []int) int {
	period := 1
	for slices.ContainsFunc(upTo(len(rim)), func(i int) bool { return rim[i] != rim[(i+period)%len(rim)] }) {
		period++
	}
	return period
}

// isWord tells by the definition whether a list is a word.
func isWord(list []int) bool {
	for by := 1; by < len(list); by++ {
		if slices.Compare(turnedBy(list, by), list) <= 0 {
			return false
		}
	}
	return len(list) > 0
}

// pieces returns the parts into which cuts cut a row.
func pieces(row, cuts []int) [][]int {
	var parts [][]int
	for i, from := range cuts {
		parts = append(parts, row[from:slices.Concat(cuts, list(len(row)))[i+1]])
	}
	return parts
}

// areRight tells by the definition whether cuts are right.
func areRight(row, cuts []int) bool {
	parts := pieces(row, cuts)
	for i, part := range parts {
		if !isWord(part) || i > 0 && slices.Compare(parts[i-1], part) < 0 {
			return false
		}
	}
	return true
}

// allCuts returns all cuts of a row with so many touches.
func allCuts(touches int) [][]int {
	var all [][]int
	for mask := range 1 << (touches - 1) {
		cuts := list(0)
		for i := 1; i < touches; i++ {
			if mask>>(i-1)&1 == 1 {
				cuts = append(cuts, i)
			}
		}
		all = append(all, cuts)
	}
	return all
}

// stands tells by the definition whether a list stands round a rim from an index on.
func stands(rim, list []int, at int) bool {
	for i, touch := range list {
		if rim[(at+i)%len(rim)] != touch {
			return false
		}
	}
	return true
}

// isRow tells by the definition whether a rim is a row of a length.
func isRow(kinds, length int, rim []int) bool {
	for _, list := range every(kinds, length) {
		many := 0
		for at := range rim {
			if stands(rim, list, at) {
				many++
			}
		}
		if many != 1 {
			return false
		}
	}
	return true
}

// rowLengths returns the kinds and lengths of which there are rows.
func rowLengths() [][2]int {
	return [][2]int{
		{1, 1}, {1, 2}, {1, 3}, {1, 4}, {1, 5}, {1, 6},
		{2, 1}, {2, 2}, {2, 3}, {2, 4}, {2, 5}, {2, 6},
		{3, 1}, {3, 2}, {3, 3}, {4, 1}, {4, 2}, {4, 3},
	}
}

// text returns a rim as the key of a map.
func text(rim []int) string {
	var text []byte
	for _, touch := range rim {
		text = strconv.AppendInt(text, int64(touch), 10)
	}
	return string(text)
}

func mustLeast(t *testing.T, kinds int, touches []int) ([]int, int) {
	t.Helper()
	least, start, e := rim.Least(kinds, touches)
	if e != api.OK {
		t.Fatal(kinds, touches, e)
	}
	return least, start
}

func mustPeriod(t *testing.T, kinds int, touches []int) int {
	t.Helper()
	period, e := rim.Period(kinds, touches)
	if e != api.OK {
		t.Fatal(kinds, touches, e)
	}
	return period
}

func mustTurn(t *testing.T, kinds int, touches []int, by int) []int {
	t.Helper()
	turned, e := rim.Turn(kinds, touches, by)
	if e != api.OK {
		t.Fatal(kinds, touches, by, e)
	}
	return turned
}

func mustWords(t *testing.T, kinds int, row []int) []int {
	t.Helper()
	cuts, e := rim.Words(kinds, row)
	if e != api.OK {
		t.Fatal(kinds, row, e)
	}
	return cuts
}

func mustCount(t *testing.T, kinds, touches int) int64 {
	t.Helper()
	many, e := rim.Count(kinds, touches)
	if e != api.OK {
		t.Fatal(kinds, touches, e)
	}
	return many
}

func mustSingle(t *testing.T, kinds, touches int) int64 {
	t.Helper()
	many, e := rim.Single(kinds, touches)
	if e != api.OK {
		t.Fatal(kinds, touches, e)
	}
	return many
}

func mustRow(t *testing.T, kinds, length int) []int {
	t.Helper()
	row, e := rim.Row(kinds, length)
	if e != api.OK {
		t.Fatal(kinds, length, e)
	}
	return row
}
