package pfaffian_test

import (
	"fmt"
	"math/big"
	"testing"

	"filigree/api"
	"filigree/integer"
	"filigree/pfaffian"
	"filigree/rotation"
)

// The chapter's examples, and the document's one of the whole: a square, no vertex, the cube, a ladder of ten rungs.
func TestExamples(t *testing.T) {
	for _, c := range []struct {
		what string
		r    [][]int
		want string
	}{
		{"a square", ring(4), "2"}, {"no vertex", nil, "1"}, {"the cube", nest(2, 4), "9"}, {"a ladder of ten rungs", grid(10, 2), "89"},
	} {
		count, k := pfaffian.Count(of(c.r), c.r)
		if got := integer.Text(count); got != c.want || k != api.OK {
			t.Errorf("%s: %s, not %s, kind %d", c.what, got, c.want, int(k))
		}
	}
}

// P1703: counts that are known.
func TestCountTold(t *testing.T) {
	for _, c := range []struct {
		what string
		r    [][]int
		want string
	}{
		{"no vertex, an empty list", [][]int{}, "1"},
		{"a vertex alone", alone(1), "0"},
		{"two alone", alone(2), "0"},
		{"an edge", way(2), "1"},
		{"two edges apart, in turn", [][]int{{2}, {3}, {0}, {1}}, "1"},
		{"a triangle", ring(3), "0"},
		{"a way of 3", way(3), "0"},
		{"a way of 4", way(4), "1"},
		{"a star", star(4), "0"},
		{"K4", [][]int{{1, 2, 3}, {0, 3, 2}, {0, 1, 3}, {0, 2, 1}}, "3"},
		{"a square with a bar", [][]int{{1, 2, 3}, {0, 2}, {0, 1, 3}, {0, 2}}, "2"},
		{"a wheel of 10", wheel(10), "9"},
		{"a wheel of 11", wheel(11), "0"},
		{"octahedron", poles(6), "8"},
		{"icosahedron", icosahedron(), "125"},
		{"dodecahedron", dual(icosahedron()), "36"},
		{"football", cornered(icosahedron()), "12500"},
		{"a board of 8 times 8", grid(8, 8), "12988816"},
		{"a board of 9 times 9", grid(9, 9), "0"},
		{"a board of 16 times 16", grid(16, 16), "2444888770250892795802079170816"},
		{"aztec 1", aztec(1), "2"},
		{"aztec 4", aztec(4), "1024"},
		{"aztec 10", aztec(10), "36028797018963968"},
		{"a square in a square, apart", beside(ring(4), ring(4)), "4"},
		{"an edge in a triangle, apart", beside(ring(3), way(2)), "0"},
		{"an edge in a triangle, joined", [][]int{{1, 3, 2}, {2, 0}, {0, 1}, {0, 4}, {3}}, "0"},
		{"two triangles and a bridge", bridged(ring(3), ring(3)), "1"},
		{"two squares and a bridge", bridged(ring(4), ring(4)), "4"},
		{"two squares and a bridge of three", bridged(bridged(ring(4), way(2)), ring(4)), "4"},
		{"two squares with a vertex in common", glued(ring(4), ring(4)), "0"},
		{"a square and a triangle with a vertex in common", glued(ring(4), ring(3)), "2"},
		{"two odd components, and an even number in all", beside(ring(3), ring(5)), "0"},
		{"two that are alone in an even number", beside(alone(1), ring(4), alone(1)), "0"},
	} {
		want, _ := new(big.Int).SetString(c.want, 10)
		isCount(t, c.what, of(c.r), c.r, want)
		isCount(t, c.what+", mirror", of(c.r), rotation.Mirror(c.r), want)
	}
}

// P1703: all graphs in the plane of at most 6 vertices, against trying all sets of edges.
func TestCountOfAll(t *testing.T) {
	for n := range 7 {
		smallSystems(n, func(g api.Graph, r [][]int) {
			want := byChoice(g)
			if n < 6 {
				want = big.NewInt(int64(bySets(g)))
			}
			isCount(t, "small", g, r, want)
		})
	}
}

// P1703: graphs of many kinds; names, mirrors and weights change nothing.
func TestCountOfMany(t *testing.T) {
	d := dice(1740)
	counts := map[bool]int{}
	for _, s := range d.shapes(24) {
		want := byFront(s.g)
		isCount(t, s.what, s.g, s.r, want)
		isCount(t, s.what+", mirror", s.g, rotation.Mirror(s.r), want)
		isCount(t, s.what+", as planar tells it", s.g, system(s.g), want)
		named := d.named(s.r)
		isCount(t, s.what+", named anew", of(named), named, want)
		isCount(t, s.what+", other weights", weighed(s.g, func(place int) int64 { return int64(place%3-1) * (api.MaxW - 1) }), s.r, want)
		counts[want.Sign() > 0]++
	}
	if counts[true] < 50 || counts[false] < 50 {
		t.Errorf("counts above 0, and counts of 0: %v", counts)
	}
}

// P1703: drawn graphs in the plane, small ones against trying all sets of edges, others against choosing for each vertex.
func TestCountOfDrawn(t *testing.T) {
	d := dice(1741)
	some := 0
	for range 1500 {
		r := d.named(d.thinner(50+d.below(60), d.triangles(2*(2+d.below(3)))))
		g := of(r)
		if len(g.E) <= 14 {
			isCount(t, "drawn, small", g, r, big.NewInt(int64(bySets(g))))
		}
	}
	for range 3000 {
		r := d.named(d.thinner(40+d.below(65), d.triangles(3+d.below(20))))
		g := of(r)
		want := byChoice(g)
		isCount(t, "drawn", g, r, want)
		some += min(1, int(want.Int64()))
	}
	for range 300 {
		plain := d.thinner(60+d.below(41), d.braced(2*(1+d.below(12)), 2+d.below(5), d.below(101)))
		r := d.named(plain)
		isCount(t, "drawn, braced", of(r), r, byFront(of(plain)))
	}
	if some < 300 {
		t.Errorf("so many have any: %d", some)
	}
}

// P1703: boards, braced or not, and rings in rings, against counting them vertex by vertex.
func TestCountOfBoards(t *testing.T) {
	d := dice(1742)
	for rows := 1; rows < 9; rows++ {
		for columns := 1; columns < 9; columns++ {
			r := grid(rows, columns)
			isCount(t, "a board", of(r), r, byFront(of(r)))
			r = d.braced(rows, columns, 100)
			isCount(t, "a braced board", of(r), r, byFront(of(r)))
		}
	}
	for n := 3; n < 9; n++ {
		for rings := 1; rings < 9; rings++ {
			r := nest(rings, n)
			isCount(t, fmt.Sprint(rings, " rings of ", n), of(r), r, byFront(of(r)))
		}
	}
	long := d.braced(120, 6, 60)
	isCount(t, "a long board", of(long), long, byFront(of(long)))
}

// P1703: aztec boards have 2 to the sum of the numbers up to theirs, as is known.
func TestCountOfAztec(t *testing.T) {
	for n := range 21 {
		r := aztec(n)
		isCount(t, fmt.Sprint("aztec ", n), of(r), r, new(big.Int).Lsh(big.NewInt(1), uint(n*(n+1)/2)))
	}
}

// P1703: an odd number of vertices has none; nor has an odd component, wherever it stands beside even ones.
func TestCountOfOddOnes(t *testing.T) {
	d := dice(1743)
	odd := [][][]int{alone(1), ring(3), way(5), wheel(7), d.triangles(9), grid(3, 5), fan(4), nest(3, 5)}
	even := [][][]int{way(2), ring(6), wheel(8), poles(10), grid(4, 5), nest(2, 5), icosahedron()}
	for _, a := range odd {
		isCount(t, "an odd one", of(a), a, new(big.Int))
		for _, b := range even {
			for _, r := range [][][]int{beside(a, b), beside(b, a), beside(b, a, b, a), beside(a, a), d.named(beside(a, b, a))} {
				isCount(t, "an odd one and an even one", of(r), r, new(big.Int))
			}
		}
	}
}
