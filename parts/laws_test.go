package parts_test

import (
	"slices"
	"testing"

	"filigree/api"
	"filigree/parts"
)

// isShared fails the test unless each number below n is in just one of the lists, each of which rises, the least ones first.
func isShared(t *testing.T, what string, n int, lists [][]int) {
	t.Helper()
	seen := make([]bool, n)
	for i, list := range lists {
		if len(list) == 0 || i > 0 && lists[i-1][0] >= list[0] {
			t.Fatalf("%s: list %d of %d: empty, or not behind the one ahead of it", what, i, len(lists))
		}
		for j, x := range list {
			if x < 0 || x >= n || seen[x] || j > 0 && list[j-1] >= x {
				t.Fatalf("%s: list %d: %d is none of them, or there twice, or does not rise", what, i, x)
			}
			seen[x] = true
		}
	}
	if slices.Contains(seen, false) {
		t.Fatalf("%s: %d is in no list", what, slices.Index(seen, false))
	}
}

// P605: each vertex is in one component, each edge in one block.
func TestEachIsInOne(t *testing.T) {
	for _, g := range samples() {
		isShared(t, "components", g.N, parts.Components(g))
		isShared(t, "blocks", len(g.E), parts.Blocks(g))
	}
}

// P605: a bridge is a block alone, and a block alone is a bridge.
func TestBridgesAreBlocks(t *testing.T) {
	for _, g := range samples() {
		var alone []int
		for _, block := range parts.Blocks(g) {
			if len(block) == 1 {
				alone = append(alone, block[0])
			}
		}
		isLists(t, "bridges", g, [][]int{parts.Bridges(g)}, [][]int{alone})
	}
}

// P603: on greater graphs: no block has a cut vertex of its own, and one less than each one's vertices is, in all, how
// many vertices are not the first of their component. (Were blocks cut too small, this sum would be too great; were they
// too great, they would have a cut vertex.)
func TestBlocksOfGreater(t *testing.T) {
	for _, g := range samples() {
		sum := 0
		for _, block := range parts.Blocks(g) {
			small := part(g, block)
			sum += small.N - 1
			if len(cutsOf(small)) > 0 || len(componentsOf(small)) != 1 {
				t.Fatalf("block %v of %v falls apart", block, g)
			}
		}
		if want := g.N - len(parts.Components(g)); sum != want {
			t.Fatalf("blocks of %v: %d, not %d", g, sum, want)
		}
	}
}

// part is the graph of these edges and their ends alone, which get new numbers.
func part(g api.Graph, places []int) api.Graph {
	number := map[int]int{}
	numbered := func(v int) int {
		if _, there := number[v]; !there {
			number[v] = len(number)
		}
		return number[v]
	}
	var ends []int
	for _, place := range places {
		ends = append(ends, numbered(g.E[place].U), numbered(g.E[place].V))
	}
	return sorted(len(number), ends...)
}

// P604: on greater graphs: what is answered holds; a component that has no odd closed way has colours.
func TestTwoOfGreater(t *testing.T) {
	odd, even := 0, 0
	for _, g := range samples() {
		sides, way, k := parts.Two(g)
		switch k {
		case api.NoMatching:
			odd++
			if len(sides) > 0 || !isOdd(g, way) {
				t.Fatalf("Two of %v: %v, %v", g, sides, way)
			}
		case api.OK:
			even++
			if !isColoured(g, sides) || len(way) > 0 {
				t.Fatalf("Two of %v: %v, %v", g, sides, way)
			}
		default:
			t.Fatalf("Two of %v: kind %d", g, int(k))
		}
	}
	if odd == 0 || even == 0 {
		t.Errorf("%d with an odd closed way, %d without: samples of both are asked for", odd, even)
	}
}

// isColoured tells whether each edge has both colours and each component's least vertex is false.
func isColoured(g api.Graph, sides []bool) bool {
	alike := func(e api.Edge) bool { return sides[e.U] == sides[e.V] }
	least := func(c []int) bool { return sides[c[0]] }
	return len(sides) == g.N && !slices.ContainsFunc(g.E, alike) && !slices.ContainsFunc(componentsOf(g), least)
}

// P601 to P604: weights change nothing.
func TestWeightsMeanNothing(t *testing.T) {
	for _, g := range samples() {
		h := api.Graph{N: g.N, E: slices.Clone(g.E)}
		for i := range h.E {
			h.E[i].W = int64(i%3-1) * (api.MaxW - 1)
		}
		isLists(t, "Components", g, parts.Components(h), parts.Components(g))
		isLists(t, "Blocks", g, parts.Blocks(h), parts.Blocks(g))
		isLists(t, "Cuts, Bridges", g, [][]int{parts.Cuts(h), parts.Bridges(h)}, [][]int{parts.Cuts(g), parts.Bridges(g)})
		sides, way, k := parts.Two(g)
		again, wayAgain, kAgain := parts.Two(h)
		if !slices.Equal(sides, again) || !slices.Equal(way, wayAgain) || k != kAgain {
			t.Fatalf("Two of %v: other weights, another answer", g)
		}
	}
}
