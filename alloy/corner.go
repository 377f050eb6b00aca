package alloy

import "porringer/kit"

// room is by how much less lead, and by how much more copper, than is asked for a part has.
type room [2]int64

// corners yields mixtures of at most three metals that deserve the touch. Every other mixture that deserves it is
// poured together of some of these, so that no cost and no share is beyond the ends of theirs.
//
// Room that a mixture leaves is taken up by two metals that are none, one with too much lead, one with too little
// copper. With these no room is left, and a corner is what three of all of them make without any room.
//
// No part is above MaxAlloyPart: it is at most twice the area of a triangle of contents, which are from 0 to 1000.
func (p pot) corners(yield func(mixture) bool) {
	rooms := p.rooms()
search:
	for three := range triples(len(rooms)) {
		parts := evenOut(rooms[three[0]], rooms[three[1]], rooms[three[2]])
		var m mixture
		for i, part := range parts {
			if part < 0 {
				continue search
			}
			if three[i] < len(p.units) {
				m[three[i]] = part
			}
		}
		if m == (mixture{}) {
			continue search
		}
		if !yield(m) {
			return
		}
	}
}

// rooms returns the room of each metal, and behind them that of the two metals that are none.
func (p pot) rooms() []room {
	rooms := make([]room, 0, len(p.units)+2)
	for _, unit := range p.units {
		rooms = append(rooms, room{p.asked[leadColumn] - unit[leadColumn], unit[copperColumn] - p.asked[copperColumn]})
	}
	return append(rooms, room{-1, 0}, room{0, -1})
}

// evenOut returns the parts, in least terms, in which three rooms together leave none. Parts of one sign alone are
// above 0; if there is a part below 0 the rooms cannot be mixed so.
func evenOut(a, b, c room) [3]int64 {
	parts := [3]int64{cross(b, c), cross(c, a), cross(a, b)}
	d := kit.Divisor(parts[:]...)
	if min(parts[0], parts[1], parts[2]) < 0 {
		d = -d
	}
	for i := range parts {
		parts[i] /= d
	}
	return parts
}

func cross(a, b room) int64 {
	return a[0]*b[1] - a[1]*b[0]
}
