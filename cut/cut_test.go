package cut_test

import (
	"fmt"
	"math"
	"slices"
	"testing"

	"filigree/api"
	"filigree/cut"
)

// The chapter's example: a triangle of weights 1, 2, 3: the cut of 5.
func TestExample(t *testing.T) {
	g := of(ring(3))
	side, w, k := cut.Max(g, ring(3))
	if got := fmt.Sprint(side, w, int(k)); got != "[false false true] 5 0" {
		t.Errorf("Max: %s", got)
	}
	isBound(t, "triangle", g, 5)
}

// P1501: sides told by hand.
func TestAcrossTold(t *testing.T) {
	const most = api.MaxW - 1
	g := edges(5, [3]int64{0, 1, 2}, [3]int64{0, 2, -3}, [3]int64{1, 2, 5}, [3]int64{2, 4, 7}, [3]int64{3, 4, -11})
	great := edges(3, [3]int64{0, 1, most}, [3]int64{0, 2, most}, [3]int64{1, 2, -most})
	for _, c := range []struct {
		what string
		g    api.Graph
		side []bool
		want string
	}{
		{"no vertex", api.Graph{}, nil, "[] 0"},
		{"no vertex, an empty list", api.Graph{}, []bool{}, "[] 0"},
		{"a vertex alone", api.Graph{N: 1}, []bool{true}, "[] 0"},
		{"no edge", api.Graph{N: 3}, []bool{true, false, true}, "[] 0"},
		{"all false", g, truthsOf(5, 0), "[] 0"},
		{"all true", g, truthsOf(5, 31), "[] 0"},
		{"the first one", g, truthsOf(5, 1), "[0 1] -1"},
		{"all but the first one", g, truthsOf(5, 30), "[0 1] -1"},
		{"the middle one", g, truthsOf(5, 4), "[1 2 3] 9"},
		{"the last one", g, truthsOf(5, 16), "[3 4] -4"},
		{"two of an edge", g, truthsOf(5, 24), "[3] 7"},
		{"a component's half", g, truthsOf(5, 10), "[0 2 4] -4"},
		{"great weights", great, truthsOf(3, 1), "[0 1] 4294967294"},
		{"great weights, and one below 0", great, truthsOf(3, 4), "[1 2] 0"},
	} {
		across, k := cut.Across(c.g, c.side)
		w, kind := cut.Weight(c.g, c.side)
		if got := fmt.Sprint(across, " ", w); got != c.want || k != api.OK || kind != api.OK {
			t.Errorf("%s: %s, not %s, kinds %d and %d", c.what, got, c.want, int(k), int(kind))
		}
	}
}

// P1501: all sides of all graphs of at most 4 vertices, and of drawn ones of 5 to 8, weights below 0 among them.
func TestAcrossOfAll(t *testing.T) {
	d := dice(1501)
	allSides := func(what string, g api.Graph) {
		for number := range 1 << g.N {
			isWeighed(t, what, g, truthsOf(g.N, number))
		}
	}
	for n := range 5 {
		smalls(n, func(g api.Graph) { allSides("small", g) })
	}
	for range 200 {
		g := d.graph(5+d.below(4), d.below(101), api.MaxW)
		allSides("drawn", weighed(g, func(int) int64 { return int64(d.below(2*api.MaxW-1)) - api.MaxW + 1 }))
	}
}

// P1501: drawn sides of graphs of many kinds.
func TestAcrossOfMany(t *testing.T) {
	d := dice(1502)
	for _, s := range samples(21) {
		for range 4 {
			isWeighed(t, s.what, s.g, d.truths(s.g.N))
		}
	}
	for range 20 {
		g := d.graph(60, 50, api.MaxW)
		isWeighed(t, "drawn", g, d.truths(60))
	}
}

// isUnsided fails the test unless Across and Weight answer BadArg and nothing else.
func isUnsided(t *testing.T, what string, g api.Graph, side []bool) {
	t.Helper()
	if across, k := cut.Across(g, side); len(across) != 0 || k != api.BadArg {
		t.Errorf("%s: Across: %d places, kind %d", what, len(across), int(k))
	}
	if w, k := cut.Weight(g, side); w != 0 || k != api.BadArg {
		t.Errorf("%s: Weight: %d, kind %d", what, w, int(k))
	}
}

// P1501: too few and too many truths, also where the missing ones would mean nothing.
func TestWrongSides(t *testing.T) {
	for _, s := range samples(9) {
		n := s.g.N
		for _, length := range []int{0, 1, n - 1, n + 1, 2 * n, 1000} {
			if length < 0 || length == n {
				continue
			}
			side := make([]bool, length)
			for v := 1; v < length; v += 2 {
				side[v] = true
			}
			isUnsided(t, fmt.Sprint(s.what, ", so many truths: ", length), s.g, side)
		}
		if n > 0 {
			isUnsided(t, s.what+", nil", s.g, nil)
			isUnsided(t, s.what+", spare room that would do", s.g, make([]bool, n-1, n))
		}
	}
	isUnsided(t, "no vertex, a truth", api.Graph{}, []bool{false})
}

// P1501: graphs that are not right, whatever sides there are.
func TestSidesOfWrongGraphs(t *testing.T) {
	for what, g := range wrongs() {
		for _, length := range []int{0, 1, 2, 3, 4, 4096, g.N} {
			if length < 0 || length == math.MaxInt {
				continue
			}
			isUnsided(t, what, g, make([]bool, length))
		}
	}
}

// P1501: weights are counted as they are, at the ends of their range too.
func TestWeightOfGreatWeights(t *testing.T) {
	for _, weight := range []int64{api.MaxW - 1, 1 - api.MaxW, 0, -1} {
		g := all(9, weight)
		for number := range 1 << 9 {
			isWeighed(t, "all", g, truthsOf(9, number))
		}
	}
	d := dice(1503)
	g := full(100000)
	side := d.truths(g.N)
	isWeighed(t, "full", g, side)
	slices.Reverse(side)
	isWeighed(t, "full, from behind", weighed(g, func(place int) int64 { return int64(place%2)*2 - 1 }), side)
}
