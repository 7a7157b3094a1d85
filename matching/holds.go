package matching

import (
	"slices"

	"filigree/api"
	"filigree/integer"
)

// Holds answers OK, if in is a perfect matching of m and p a proof that none is cheaper; else what is wrong.
func Holds(m api.Graph, in []int, p api.Proof) api.Kind {
	if k := Check(m, in); k != api.OK {
		return k
	}
	if !isFormed(m, p) || !isMet(m, p) || !isSpent(m, in, p) {
		return api.BadWitness
	}
	return api.OK
}

// isFormed tells whether p has a number of each vertex, and its sets are what they must be.
func isFormed(m api.Graph, p api.Proof) bool {
	isWrong := func(b api.Blossom) bool { return b.Z < 0 || !isOddSet(m, b.In) }
	return len(p.Y) == m.N && !slices.ContainsFunc(p.B, isWrong)
}

// isOddSet tells whether the list is vertices, rising, an odd number of them, and 3 at least.
func isOddSet(m api.Graph, list []int) bool {
	last := none
	for _, v := range list {
		if v <= last || v >= m.N {
			return false
		}
		last = v
	}
	return len(list) >= 3 && len(list)%2 != 0
}

// isMet tells whether of each edge the numbers that count for it sum up to at least -2 W.
func isMet(m api.Graph, p api.Proof) bool {
	shared := sharedSums(m, p)
	isShort := func(e api.Edge) bool {
		sum := shared[pairOf(m, e.U, e.V)]
		sum.add(p.Y[e.U])
		sum.add(p.Y[e.V])
		sum.add(2 * e.W)
		return sum.isNegative()
	}
	return !slices.ContainsFunc(m.E, isShort)
}

// sharedSums is of each pair of vertices the sum of Z of each set that has both.
func sharedSums(m api.Graph, p api.Proof) []total {
	shared := make([]total, m.N*m.N)
	for _, b := range p.B {
		for i, v := range b.In {
			for _, u := range b.In[:i] {
				shared[pairOf(m, u, v)].add(b.Z)
			}
		}
	}
	return shared
}

// pairOf is the number of a pair of vertices, whichever of them comes first.
func pairOf(m api.Graph, u, v int) int { return max(u, v)*m.N + min(u, v) }

// isSpent tells whether all numbers of p, as often as they count for a perfect matching, sum up to -2 times the matching's cost.
func isSpent(m api.Graph, in []int, p api.Proof) bool {
	var vertices total
	for _, y := range p.Y {
		vertices.add(y)
	}
	sum := vertices.number()
	for _, b := range p.B {
		pairs := int64(len(b.In)-1) / 2
		sum = integer.Add(sum, integer.Mul(integer.Of(b.Z), integer.Of(pairs)))
	}
	return integer.Cmp(sum, integer.Of(-2*costOf(m, in))) == 0
}
