package rim

import (
	"iter"
	"slices"

	"porringer/api"
	"porringer/kit"
)

// marks is which indexes of a list are marked.
type marks [api.MaxRimTouches]bool

// speller tells which lists are words.
type speller struct {
	again marks
}

// divider is a speller of words whose lengths divide a length.
type divider struct {
	speller
	length int
}

// begins reports whether a list is nowhere less than its beginning: if it is, from an index on, no word begins with it.
// It marks the indexes from which on the list is, up to its end, as it begins.
func (s *speller) begins(list []int) bool {
	clear(s.again[:])
	for at := 1; at < len(list); at++ {
		order := slices.Compare(list[at:], list[:len(list)-at])
		if order < 0 {
			return false
		}
		s.again[at] = order == 0
	}
	return true
}

// isWord reports whether a list of at least one touch is a word. A list is less than all others to which it can be turned
// just if it is less than all ends of it that are shorter.
func (s *speller) isWord(list []int) bool {
	return s.begins(list) && s.again == (marks{})
}

// fits reports whether there may be words, not too long, that begin with a list and a touch behind it.
func (d *divider) fits(list []int, touch int) bool {
	end := len(list)
	return end < d.length && d.begins(append(list[:end:end], touch))
}

// isMeant reports whether a list is a word whose length divides that of the divider.
func (d *divider) isMeant(list []int) bool {
	return len(list) > 0 && d.length%len(list) == 0 && d.isWord(list)
}

// words yields, in lexicographic order, all words of the kinds whose lengths divide a length.
func words(kinds, length int) iter.Seq[[]int] {
	d := &divider{length: length}
	return meant(kit.Grown(kinds, d.fits), d.isMeant)
}

// meant yields those of some lists that are meant.
func meant(lists iter.Seq[[]int], isMeant func(list []int) bool) iter.Seq[[]int] {
	return func(yield func([]int) bool) {
		for list := range lists {
			if isMeant(list) && !yield(list) {
				return
			}
		}
	}
}

// parts yields the parts into which cuts cut a row.
func (r ring) parts(cuts []int) iter.Seq[[]int] {
	return func(yield func([]int) bool) {
		for i, from := range cuts {
			to := len(r.touches)
			if i+1 < len(cuts) {
				to = cuts[i+1]
			}
			if !yield(r.touches[from:to]) {
				return
			}
		}
	}
}

// right reports whether parts are words none of which is less than the next one.
func right(parts iter.Seq[[]int]) bool {
	var s speller
	var before []int
	for part := range parts {
		if !s.isWord(part) || before != nil && slices.Compare(before, part) < 0 {
			return false
		}
		before = part
	}
	return true
}

// cuts returns the right cuts of a row. Its last word is the least of all its ends, whatever words stand before it; so the
// words are found from the last one on.
func (r ring) cuts() []int {
	var cuts []int
	for end := len(r.touches); end > 0; {
		last, _ := kit.Best(ends(r.touches[:end]), less)
		end = last.from
		cuts = append(cuts, end)
	}
	slices.Reverse(cuts)
	return cuts
}

// ends yields all ends of a row that are not empty.
func ends(row []int) iter.Seq[reading] {
	return func(yield func(reading) bool) {
		for from := range row {
			if !yield(reading{from, row[from:]}) {
				return
			}
		}
	}
}
