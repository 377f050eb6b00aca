package alloy

import (
	"cmp"
	"maps"
	"slices"

	"porringer/api"
	"porringer/kit"
)

// validWeights reports whether all numbers of a proof but Den are as described.
func validWeights(proof api.AlloyProof) bool {
	return kit.Within(-api.MaxAlloyWeight, api.MaxAlloyWeight, proof.Base) &&
		kit.Within(0, api.MaxAlloyWeight, proof.Lead, proof.Copper)
}

// factors returns by what a proof multiplies the columns of sums.
func factors(proof api.AlloyProof) sums {
	return sums{proof.Base, -proof.Den, -proof.Lead, proof.Copper}
}

// proofOf returns the proof with factors that are divided by a number.
func proofOf(f sums, by int64) api.AlloyProof {
	return api.AlloyProof{
		Den:    -f[priceColumn] / by,
		Base:   f[partsColumn] / by,
		Lead:   -f[leadColumn] / by,
		Copper: f[copperColumn] / by,
	}
}

// dot returns the sum of two rows that are multiplied column by column.
func dot(a, b sums) int64 {
	var sum int64
	for column := range a {
		sum += a[column] * b[column]
	}
	return sum
}

// holds reports whether a proof holds for all metals.
func (p pot) holds(proof api.AlloyProof) bool {
	return noneAbove(p.units, proof)
}

// noneAbove reports whether a proof gives no row more than 0.
func noneAbove(rows []sums, proof api.AlloyProof) bool {
	f := factors(proof)
	for _, row := range rows {
		if dot(f, row) > 0 {
			return false
		}
	}
	return true
}

func (p pot) value(proof api.AlloyProof) int64 {
	return dot(factors(proof), p.asked)
}

// costProof returns a proof of the least cost, if some mixture deserves the touch.
func (p pot) costProof() api.AlloyProof {
	values := p.proofs()
	maps.DeleteFunc(values, func(proof api.AlloyProof, _ int64) bool { return proof.Den == 0 })
	return strongest(values, func(one, other api.AlloyProof) bool {
		return values[one]*other.Den > values[other]*one.Den
	})
}

// neverProof returns a proof that no mixture deserves the touch, if none does.
func (p pot) neverProof() api.AlloyProof {
	values := p.proofs()
	maps.DeleteFunc(values, func(proof api.AlloyProof, _ int64) bool { return proof.Den != 0 })
	return strongest(values, func(one, other api.AlloyProof) bool { return values[one] > values[other] })
}

// strongest returns the best one of some proofs; of equal ones always the same, in whatever order the map has them.
func strongest(values map[api.AlloyProof]int64, better func(one, other api.AlloyProof) bool) api.AlloyProof {
	proofs := slices.SortedFunc(maps.Keys(values), compareProofs)
	proof, _ := kit.Best(slices.Values(proofs), better)
	return proof
}

func compareProofs(a, b api.AlloyProof) int {
	return cmp.Or(cmp.Compare(a.Den, b.Den), cmp.Compare(a.Base, b.Base), cmp.Compare(a.Lead, b.Lead), cmp.Compare(a.Copper, b.Copper))
}

// proofs returns, with their values, proofs that hold, of which all others are made: so some of them prove the most.
//
// That Den, Lead and Copper are not below 0 is asked by three rows more, as if they were metals. To three of all rows
// such a proof gives just 0, and they tell it, but for a number by which all of it is multiplied.
func (p pot) proofs() map[api.AlloyProof]int64 {
	n := len(p.units)
	rows := append(p.units[:n:n], sums{priceColumn: 1}, sums{leadColumn: 1}, sums{copperColumn: -1})
	values := map[api.AlloyProof]int64{}
	for three := range triples(len(rows)) {
		f := across(rows[three[0]], rows[three[1]], rows[three[2]])
		if f == (sums{}) {
			continue
		}
		d := kit.Divisor(f[:]...)
		for _, proof := range [2]api.AlloyProof{proofOf(f, d), proofOf(f, -d)} {
			values[proof] = p.value(proof)
		}
	}
	for proof := range values {
		if !noneAbove(rows, proof) {
			delete(values, proof)
		}
	}
	return values
}

// across returns factors that give 0 to each of three rows; all are 0 if the rows do not tell them.
func across(a, b, c sums) sums {
	var f sums
	sign := int64(1)
	for column := range f {
		f[column] = sign * minor(a, b, c, column)
		sign = -sign
	}
	return f
}

// minor returns the determinant of three rows without a column. The other columns are taken round from it, which
// is an even exchange of their order.
func minor(a, b, c sums, without int) int64 {
	x, y, z := (without+1)%columns, (without+2)%columns, (without+3)%columns
	return a[x]*(b[y]*c[z]-b[z]*c[y]) - a[y]*(b[x]*c[z]-b[z]*c[x]) + a[z]*(b[x]*c[y]-b[y]*c[x])
}
