package cut_test

import (
	"slices"
	"testing"

	"filigree/api"
	"filigree/cut"
	"filigree/parts"
)

// This file holds the chapter's words themselves, by slow ways of their own.

// acrossOf is the places of the edges whose ends' sides are not the same, rising.
func acrossOf(g api.Graph, side []bool) []int {
	var list []int
	for place, e := range g.E {
		if side[e.U] && !side[e.V] || !side[e.U] && side[e.V] {
			list = append(list, place)
		}
	}
	return list
}

// sumOf is the sum of the weights of the edges at these places.
func sumOf(g api.Graph, places []int) int64 {
	sum := int64(0)
	for _, place := range places {
		sum += g.E[place].W
	}
	return sum
}

// weightOf is the sum of the weights of the edges whose ends' sides are not the same.
func weightOf(g api.Graph, side []bool) int64 { return sumOf(g, acrossOf(g, side)) }

// totalOf is the sum of all weights.
func totalOf(g api.Graph) int64 {
	sum := int64(0)
	for _, e := range g.E {
		sum += e.W
	}
	return sum
}

// truthsOf is the bits of a number as n truths.
func truthsOf(n, number int) []bool {
	list := make([]bool, n)
	for v := range list {
		list[v] = number>>v&1 == 1
	}
	return list
}

// heaviestOf is the greatest weight of all sides.
func heaviestOf(g api.Graph) int64 {
	heaviest := int64(0)
	for number := range 1 << max(0, g.N-1) { // the last vertex may stay false, as turned sides are the same cut
		sum := int64(0)
		for _, e := range g.E {
			sum += e.W * int64(number>>e.U&1^number>>e.V&1)
		}
		heaviest = max(heaviest, sum)
	}
	return heaviest
}

// frontOf is the greatest weight of all sides of a graph each of whose vertices is joined to near ones alone: of those that are
// joined to later ones each choice of sides is kept, with the greatest weight so far.
func frontOf(g api.Graph) int64 {
	last := make([]int, g.N)
	for _, e := range g.E {
		last[e.U] = max(last[e.U], e.V)
	}
	earlier := make([][]api.Edge, g.N)
	for _, e := range g.E {
		earlier[e.V] = append(earlier[e.V], e)
	}
	var open []int // the vertices whose sides are kept, as the bits of a number
	best := map[uint64]int64{0: 0}
	for v := range g.N {
		open = append(open, v)
		stays := func(u int) bool { return last[u] > v }
		next := map[uint64]int64{}
		for sides, sum := range best {
			for _, side := range []uint64{0, 1} {
				all := sides | side<<(len(open)-1)
				more := sum
				for _, e := range earlier[v] {
					more += e.W * int64(all>>slices.Index(open, e.U)&1^side)
				}
				kept := only(all, open, stays)
				if old, known := next[kept]; !known || old < more {
					next[kept] = more
				}
			}
		}
		best = next
		open = slices.DeleteFunc(open, func(u int) bool { return !stays(u) })
	}
	return best[0]
}

// only is the bits of those that stay, pushed together.
func only(bits uint64, list []int, stays func(v int) bool) uint64 {
	kept, count := uint64(0), 0
	for i, v := range list {
		if stays(v) {
			kept |= bits >> i & 1 << count
			count++
		}
	}
	return kept
}

// leastOf is of each vertex the least one that it hangs together with.
func leastOf(g api.Graph) []int {
	least := make([]int, g.N)
	for v := range least {
		least[v] = v
	}
	for changed := true; changed; {
		changed = false
		for _, e := range g.E {
			low := min(least[e.U], least[e.V])
			changed = changed || least[e.U] != low || least[e.V] != low
			least[e.U], least[e.V] = low, low
		}
	}
	return least
}

// isTwo tells whether a graph can be coloured by two: no set of sides is needed, as colours spread from each vertex's neighbours.
func isTwo(g api.Graph) bool {
	colour := make([]int, g.N) // 0: none yet
	for v := range g.N {
		if colour[v] != 0 {
			continue
		}
		colour[v] = 1
		for changed := true; changed; {
			changed = false
			for _, e := range g.E {
				for _, end := range [][2]int{{e.U, e.V}, {e.V, e.U}} {
					if colour[end[0]] != 0 && colour[end[1]] == 0 {
						colour[end[1]] = 3 - colour[end[0]]
						changed = true
					}
				}
			}
		}
	}
	return !slices.ContainsFunc(g.E, func(e api.Edge) bool { return colour[e.U] == colour[e.V] })
}

// boundOf is the sum of all weights less the least one of each block that can't be coloured by two.
func boundOf(g api.Graph) int64 {
	bound := totalOf(g)
	for _, block := range parts.Blocks(g) {
		alone := api.Graph{N: g.N}
		lightest := g.E[block[0]].W
		for _, place := range block {
			alone.E = append(alone.E, g.E[place])
			lightest = min(lightest, g.E[place].W)
		}
		if !isTwo(alone) {
			bound -= lightest
		}
	}
	return bound
}

// waysOf is all closed ways of a graph without a vertex twice, as the bits of their places, each with how many edges it has.
func waysOf(g api.Graph) map[int]int {
	ways := map[int]int{}
	var walk func(first, v, seen, places, length int)
	walk = func(first, v, seen, places, length int) {
		for place, e := range g.E {
			if e.U != v && e.V != v || places>>place&1 == 1 {
				continue
			}
			u := e.U + e.V - v
			if u == first {
				ways[places|1<<place] = length + 1
			} else if u > first && seen>>u&1 == 0 {
				walk(first, u, seen|1<<u, places|1<<place, length+1)
			}
		}
	}
	for v := range g.N {
		walk(v, v, 1<<v, 0, 0)
	}
	return ways
}

// boundByWays is boundOf without parts: two edges are of one block, if a closed way goes over both.
func boundByWays(g api.Graph) int64 {
	ways := waysOf(g)
	done := 0
	bound := totalOf(g)
	for place := range g.E {
		if done>>place&1 == 1 {
			continue
		}
		block := 1 << place
		for way := range ways {
			if way>>place&1 == 1 {
				block |= way
			}
		}
		done |= block
		if !hasOdd(ways, block) {
			continue
		}
		lightest := g.E[place].W
		for other, e := range g.E {
			if block>>other&1 == 1 {
				lightest = min(lightest, e.W)
			}
		}
		bound -= lightest
	}
	return bound
}

// hasOdd tells whether a closed way of an odd number of edges goes over these alone.
func hasOdd(ways map[int]int, block int) bool {
	for way, length := range ways {
		if way&^block == 0 && length%2 == 1 {
			return true
		}
	}
	return false
}

// isMax fails the test unless Max answers sides of this weight, as the chapter says: the first vertex of each component false, what
// Weight and Across say of them, and the laws.
func isMax(t *testing.T, what string, g api.Graph, r [][]int, want int64) []bool {
	t.Helper()
	side, w, k := cut.Max(g, r)
	if k != api.OK || len(side) != g.N || w != want || weightOf(g, side) != want {
		t.Fatalf("%s: Max(%v, %v): %v, %d, not %d, kind %d", what, g, r, side, w, want, int(k))
	}
	for v, least := range leastOf(g) {
		if v == least && side[v] {
			t.Fatalf("%s: Max(%v, %v): %v: true at %d", what, g, r, side, v)
		}
	}
	isWeighed(t, what, g, side)
	bound, k := cut.Bound(g)
	if total := totalOf(g); k != api.OK || w > bound || bound > total || w < total-w || isTwo(g) && w != total {
		t.Fatalf("%s: Max(%v, %v): %d, of %d in all, Bound %d, kind %d", what, g, r, w, total, bound, int(k))
	}
	return side
}

// isWeighed fails the test unless Across and Weight say of sides what the words do.
func isWeighed(t *testing.T, what string, g api.Graph, side []bool) {
	t.Helper()
	across, k := cut.Across(g, side)
	if want := acrossOf(g, side); k != api.OK || !slices.Equal(across, want) {
		t.Fatalf("%s: Across(%v, %v): %v, not %v, kind %d", what, g, side, across, want, int(k))
	}
	if w, k := cut.Weight(g, side); k != api.OK || w != weightOf(g, side) {
		t.Fatalf("%s: Weight(%v, %v): %d, not %d, kind %d", what, g, side, w, weightOf(g, side), int(k))
	}
}

// isBound fails the test unless Bound answers this.
func isBound(t *testing.T, what string, g api.Graph, want int64) {
	t.Helper()
	if bound, k := cut.Bound(g); k != api.OK || bound != want {
		t.Fatalf("%s: Bound(%v): %d, not %d, kind %d", what, g, bound, want, int(k))
	}
}
