package pfaffian

import (
	"slices"

	"filigree/api"
	"filigree/parts"
)

// rim is what is known of a face while directions are told.
type rim struct {
	odd  bool // an odd number of its darts go as their edges do, of the edges that are told
	open int  // how many edges beside it are not told
	mark int  // the places of these, one xor the other: of one alone, its place
}

// told is a good direction: edges of the trees go along. By all others a component's faces hang together, and these are a tree too, as the
// component is in the plane. So while one is not told there is an outermost face, beside which it is the only one: it makes that face odd.
// Of each component one face is left, odd or not.
func told(sides [][2]int, inTree []bool) []bool {
	along := make([]bool, len(sides))
	rims := make([]rim, countOf(sides))
	touch := func(place, more int) {
		for _, face := range sides[place] {
			rims[face].open += more
			rims[face].mark ^= place
		}
	}
	tell := func(place int, as bool) {
		along[place] = as
		face := &rims[ahead(sides[place], as)]
		face.odd = !face.odd
	}
	for place := range sides {
		if inTree[place] {
			tell(place, true)
		} else {
			touch(place, 1)
		}
	}
	var stack []int // each face that is outermost stands there, others may
	for face := range rims {
		stack = append(stack, face)
	}
	for len(stack) > 0 {
		face := stack[len(stack)-1]
		stack = stack[:len(stack)-1]
		if rims[face].open != 1 {
			continue
		}
		place := rims[face].mark
		tell(place, (sides[place][0] == face) != rims[face].odd)
		touch(place, -1)
		stack = append(stack, sides[place][:]...)
	}
	return along
}

// inTrees tells which edges are of a tree of their component: those that lead somewhere where no edge ahead of them leads.
func inTrees(g api.Graph) []bool {
	near := make([]int, g.N) // of each vertex one that it hangs together with: itself, if it stands for all of them
	for v := range near {
		near[v] = v
	}
	first := func(v int) int {
		for near[v] != v {
			near[v] = near[near[v]] // the next one who asks has half as far
			v = near[v]
		}
		return v
	}
	in := make([]bool, len(g.E))
	for place, e := range g.E {
		if u, v := first(e.U), first(e.V); u != v {
			near[v] = u
			in[place] = true
		}
	}
	return in
}

// isGood tells whether of each component's faces at most one is not odd.
func isGood(g api.Graph, sides [][2]int, along []bool) bool {
	components := parts.Components(g)
	component := numbersOf(g.N, components)
	odd := make([]bool, countOf(sides))
	owner := make([]int, len(odd)) // of each face its component
	for place, side := range sides {
		face := ahead(side, along[place])
		odd[face] = !odd[face]
		c := component[g.E[place].U]
		owner[side[0]], owner[side[1]] = c, c
	}
	others := make([]int, len(components)) // of each component how many faces are not odd
	for face, c := range owner {
		if !odd[face] {
			others[c]++
		}
	}
	return !slices.ContainsFunc(others, func(count int) bool { return count > 1 })
}

// ahead is the face of the dart that goes as its edge does.
func ahead(side [2]int, along bool) int {
	if along {
		return side[0]
	}
	return side[1]
}

// countOf is how many faces there are: each is beside an edge, and so is the last one.
func countOf(sides [][2]int) int {
	count := 0
	for _, side := range sides {
		count = max(count, side[0]+1, side[1]+1)
	}
	return count
}
