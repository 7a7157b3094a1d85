package kuratowski_test

import (
	"math/bits"
	"slices"
	"testing"

	"filigree/api"
	"filigree/kuratowski"
)

// chosen is the places that a set holds.
func chosen(set uint) []int {
	var list []int
	for ; set != 0; set &= set - 1 {
		list = append(list, bits.TrailingZeros(set))
	}
	return list
}

// isAsTheWords fails the test unless all answers are the ones of the words.
func isAsTheWords(t *testing.T, g api.Graph, in []int) {
	t.Helper()
	want, kind := toldOf(g, in), api.OK
	if !hasWays(g, in) {
		want, kind = nil, api.BadWitness
	}
	if ways, k := kuratowski.Ways(g, in); k != kind || !slices.EqualFunc(ways, want, slices.Equal) {
		t.Fatalf("Ways of %v, %v: %v, kind %d, not %v, kind %d", g, in, ways, int(k), want, int(kind))
	}
	isClass(t, "against the words", g, in, classOf(g, in))
}

// P801, P802: against the words, on all sets of edges of all graphs of at most 5 vertices.
func TestAllSmall(t *testing.T) {
	for n := range 6 {
		pairs := among(upTo(n)...)
		for graph := range uint(1) << (len(pairs) / 2) {
			var ends []int
			for _, i := range chosen(graph) {
				ends = append(ends, pairs[2*i], pairs[2*i+1])
			}
			g := sorted(n, ends...)
			for set := range uint(1) << len(g.E) {
				isAsTheWords(t, g, chosen(set))
			}
		}
	}
}

// P801, P802: against the words, on all sets of edges of some greater graphs.
func TestAllOfSome(t *testing.T) {
	for _, g := range []api.Graph{
		sorted(6, among(upTo(6)...)...),
		sorted(7, between(3, 4)...),
		sorted(10, petersen()...),
		sorted(8, append(round(upTo(8)...), 0, 4, 1, 5, 2, 6, 3, 7)...),
		sorted(9, doubled(6, 2)...),
		sorted(10, doubled(5, 1)...),
	} {
		for set := range uint(1) << len(g.E) {
			isAsTheWords(t, g, chosen(set))
		}
	}
}

// P801, P802: against the words, on greater ones, whole and with an edge more or less.
func TestGreater(t *testing.T) {
	d := dice(801)
	for _, s := range all() {
		isAsTheWords(t, s.g, s.in)
		for range 3 {
			i := d.below(len(s.in))
			isAsTheWords(t, s.g, slices.Delete(slices.Clone(s.in), i, i+1))
			if i := d.below(len(s.g.E)); !slices.Contains(s.in, i) {
				isAsTheWords(t, s.g, append(slices.Clone(s.in), i))
			}
		}
	}
}

// P802: how many witnesses a graph has is known: K5 and K3,3 can be chosen in it in so many ways, and the vertices that
// are left can be put on ways or left out.
func TestKnownCounts(t *testing.T) {
	for _, c := range []struct {
		what         string
		g            api.Graph
		five, threes int
	}{
		{"K5", sorted(5, among(upTo(5)...)...), 1, 0},
		{"K6", sorted(6, among(upTo(6)...)...), 6 + 6*10, 10},
		{"K7", sorted(7, among(upTo(7)...)...), 21 + 21*2*10 + 21*(10*9+10*2), 7*10 + 7*10*9},
		{"K3,3", sorted(6, between(3, 3)...), 0, 1},
		{"K3,4", sorted(7, between(3, 4)...), 0, 4},
		{"K4,4", sorted(8, between(4, 4)...), 0, 16 + 16*9},
	} {
		got := map[int]int{}
		for set := range uint(1) << len(c.g.E) {
			if bits.OnesCount(set) < 9 {
				continue
			}
			class, _ := kuratowski.Class(c.g, chosen(set))
			got[class]++
		}
		if got[5] != c.five || got[33] != c.threes {
			t.Errorf("%s: %d and %d witnesses, not %d and %d", c.what, got[5], got[33], c.five, c.threes)
		}
	}
}
