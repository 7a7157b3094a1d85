package levels_test

import (
	"slices"
	"testing"

	"filigree/api"
	"filigree/levels"
	"filigree/parts"
)

// isLaw fails the test unless what the package tells of g with this k fits together.
func isLaw(t *testing.T, what string, g api.Graph, k int) {
	t.Helper()
	level, kind := levels.Of(g)
	if kind != api.OK || !isLevels(g, level) {
		t.Fatalf("%s: Of: no levels, kind %d", what, int(kind))
	}
	for _, e := range g.E {
		if by := level[e.U] - level[e.V]; by < -1 || by > 1 {
			t.Fatalf("%s: levels %d and %d beside each other", what, level[e.U], level[e.V])
		}
	}
	out := make([]int, g.N) // how often each one is left out
	for shift := range k + 1 {
		kept, _ := levels.Kept(g, k, shift)
		for v := range g.N {
			if !kept[v] {
				out[v]++
			}
		}
		pieces, _ := levels.Pieces(g, k, shift)
		isPieces(t, what, g, k, level, kept, pieces)
	}
	if slices.ContainsFunc(out, func(times int) bool { return times != 1 }) {
		t.Fatalf("%s: %d: not each is left out just once", what, k)
	}
}

// isPieces fails the test unless each kept vertex is in one piece, each piece rises, the least ones rise, none of them have an edge between
// them, and each is of at most k levels, one behind the other.
func isPieces(t *testing.T, what string, g api.Graph, k int, level []int, kept []bool, pieces [][]int) {
	t.Helper()
	in := make([]int, g.N) // the piece of each vertex, from 1 on; 0: in none
	for i, piece := range pieces {
		if len(piece) == 0 || !slices.IsSorted(piece) || i > 0 && pieces[i-1][0] >= piece[0] {
			t.Fatalf("%s: %d: piece %d is empty or in no order", what, k, i)
		}
		for _, v := range piece {
			if in[v] != 0 || !kept[v] {
				t.Fatalf("%s: %d: vertex %d is in a piece that it should not be in", what, k, v)
			}
			in[v] = i + 1
		}
		isBand(t, what, k, level, piece)
	}
	for v, stays := range kept {
		if stays && in[v] == 0 {
			t.Fatalf("%s: %d: vertex %d is in no piece", what, k, v)
		}
	}
	for _, e := range g.E {
		if kept[e.U] && kept[e.V] && in[e.U] != in[e.V] {
			t.Fatalf("%s: %d: an edge between pieces %d and %d", what, k, in[e.U], in[e.V])
		}
	}
}

// isBand fails the test unless a piece's levels are at most k, and none is left out between them.
func isBand(t *testing.T, what string, k int, level, piece []int) {
	t.Helper()
	var there []int
	for _, v := range piece {
		there = append(there, level[v])
	}
	slices.Sort(there)
	there = slices.Compact(there)
	if len(there) > k || there[len(there)-1]-there[0] != len(there)-1 {
		t.Fatalf("%s: %d: a piece of levels %v", what, k, there)
	}
}

// P1804: of all samples and each k.
func TestLaws(t *testing.T) {
	for _, s := range samples(40) {
		for k := 1; k <= api.MaxK; k++ {
			isLaw(t, s.what, s.g, k)
		}
	}
}

// P1804: of graphs of some hundreds and thousands of vertices.
func TestLawsOfGreater(t *testing.T) {
	d := dice(1804)
	for n := 100; n <= 6000; n += n * 3 / 4 {
		for _, s := range []sample{
			{"a mixed way", d.named(sorted(n, along(upTo(n)...)...))},
			{"a long tree", d.named(d.tree(n, 5))},
			{"a forest", d.named(d.thinner(95, d.tree(n, 20)))},
			{"a board", d.named(sorted(n/10*10, board(n/10, 10)...))},
			{"most of a board", d.named(d.thinner(70, sorted(n/20*20, board(20, n/20)...)))},
		} {
			for k := 1; k <= api.MaxK; k++ {
				isLaw(t, s.what, s.g, k)
			}
		}
	}
}

// P1803: pieces are the components of the graph that the kept vertices are alone, with new numbers that rise as they do.
func TestPiecesAreComponents(t *testing.T) {
	for _, s := range samples(40) {
		each(func(k, shift int) {
			kept, _ := levels.Kept(s.g, k, shift)
			alone, names := left(s.g, kept)
			want := parts.Components(alone)
			for _, piece := range want {
				for i, v := range piece {
					piece[i] = names[v]
				}
			}
			if got, kind := levels.Pieces(s.g, k, shift); !slices.EqualFunc(got, want, slices.Equal) || kind != api.OK {
				t.Fatalf("%s: %d, %d: %v, kind %d, not %v", s.what, k, shift, got, int(kind), want)
			}
		})
	}
}
