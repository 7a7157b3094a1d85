package levels_test

import (
	"math"
	"testing"

	"filigree/api"
	"filigree/levels"
)

// isRefused fails the test unless Kept and Pieces answer this kind and nothing else. Graphs may be too great to be shown.
func isRefused(t *testing.T, what string, g api.Graph, k, shift int, want api.Kind) {
	t.Helper()
	if kept, kind := levels.Kept(g, k, shift); len(kept) != 0 || kind != want {
		t.Errorf("%s: Kept with %d, %d: %d truths, kind %d, not %d", what, k, shift, len(kept), int(kind), int(want))
	}
	if pieces, kind := levels.Pieces(g, k, shift); len(pieces) != 0 || kind != want {
		t.Errorf("%s: Pieces with %d, %d: %d pieces, kind %d, not %d", what, k, shift, len(pieces), int(kind), int(want))
	}
}

// pairs is k and shift, at least one of which is out of its range.
func pairs() [][2]int {
	var list [][2]int
	numbers := []int{math.MinInt, math.MinInt + 1, math.MinInt32, -9, -2, -1, 0, 1, 2, 3, 7, 8, 9, 10, 255, 256, 257, 1 << 32, 1<<32 + 1, math.MaxInt - 1, math.MaxInt}
	for _, k := range numbers {
		for _, shift := range numbers {
			if !mayBe(k, shift) {
				list = append(list, [2]int{k, shift})
			}
		}
	}
	return list
}

// mayBe tells whether each tells these two.
func mayBe(k, shift int) bool {
	is := false
	each(func(a, b int) { is = is || a == k && b == shift })
	return is
}

// P1801, P1802, P1803: graphs that are not right, whatever k and shift are.
func TestWrongGraphs(t *testing.T) {
	for what, g := range wrongs() {
		if level, kind := levels.Of(g); len(level) != 0 || kind != api.BadArg {
			t.Errorf("%s: Of: %d levels, kind %d", what, len(level), int(kind))
		}
		for _, pair := range [][2]int{{1, 0}, {1, 1}, {2, 2}, {api.MaxK, 0}, {api.MaxK, api.MaxK}, {0, 0}, {-1, 0}, {api.MaxK + 1, 0}, {1, -1}, {1, 2}, {0, 1}, {math.MaxInt, math.MinInt}} {
			isRefused(t, what, g, pair[0], pair[1], api.BadArg)
		}
	}
}

// P1802, P1803: k and shift out of their ranges, of graphs with and without vertices.
func TestWrongParameters(t *testing.T) {
	for _, pair := range pairs() {
		for _, s := range []sample{{"no vertex", api.Graph{}}, {"one", api.Graph{N: 1}}, {"way", sorted(12, along(upTo(12)...)...)}, {"all", sorted(5, among(upTo(5)...)...)}} {
			isRefused(t, s.what, s.g, pair[0], pair[1], api.BadParameter)
		}
	}
}

// P1802, P1803: k just in its range and just beyond it, shift from 0 to k and just beyond it, one by one.
func TestEdgesOfParameters(t *testing.T) {
	g := sorted(6, along(upTo(6)...)...)
	for k := -2; k <= api.MaxK+2; k++ {
		for shift := -2; shift <= api.MaxK+3; shift++ {
			if k < 1 || k > 8 || shift < 0 || shift > k {
				isRefused(t, "way", g, k, shift, api.BadParameter)
				continue
			}
			kept := keptOf(upTo(6), k, shift)
			isTold(t, "way", g, k, shift, upTo(6), kept, piecesOf(g, kept))
		}
	}
}
