package mould

import (
	"slices"

	"porringer/api"
	"porringer/kit"
)

// cover is shops and moulds that are to have all wants.
type cover struct {
	shops, moulds []int
}

// misses reports whether a want is of none of the cover's shops and moulds.
func (c cover) misses(w api.MouldWant) bool {
	return !slices.Contains(c.shops, w.Shop) && !slices.Contains(c.moulds, w.Mould)
}

// wanting reports whether a shop has wants, whatever shops are before it.
func (d desk) wanting(_ []int, shop int) bool {
	return d.load[shop] > 0
}

// wantedBy returns the moulds that some of the shops want, increasing.
func (d desk) wantedBy(shops []int) []int {
	load := d.loadsOf(func(w api.MouldWant) bool { return slices.Contains(shops, w.Shop) })
	var moulds []int
	for mould, many := range load[firstMould:] {
		if many > 0 {
			moulds = append(moulds, mould)
		}
	}
	return moulds
}

// tooFew returns by how many the moulds that shops want are fewer than these.
func (d desk) tooFew(shops []int) int {
	return len(shops) - len(d.wantedBy(shops))
}

// mostShort returns shops with wants for which the most moulds are too few; none if no shops are short.
//
// The other shops with wants, and the moulds that those returned want, are a cover. It has as many numbers as there are
// shops with wants, less the moulds that are too few; so no cover has fewer.
func (d desk) mostShort() []int {
	shops, _ := kit.Best(kit.Lists(d.Shops, d.wanting), func(one, other []int) bool {
		return d.tooFew(one) > d.tooFew(other)
	})
	return shops
}

// others returns the shops with wants that are not in a list, increasing.
func (d desk) others(list []int) []int {
	var shops []int
	for shop := range d.Shops {
		if d.load[shop] > 0 && !slices.Contains(list, shop) {
			shops = append(shops, shop)
		}
	}
	return shops
}
