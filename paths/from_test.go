package paths_test

import (
	"fmt"
	"slices"
	"testing"

	"filigree/api"
	"filigree/paths"
)

// isFrom fails the test unless From answers these distances, with a via that is right by Check and by the words.
func isFrom(t *testing.T, what string, m api.Graph, v int, least []int64) []int {
	t.Helper()
	dist, via, k := paths.From(m, v)
	if k != api.OK || !slices.Equal(dist, least) {
		t.Fatalf("%s: From(%v, %d): %v, not %v, kind %d", what, m, v, dist, least, int(k))
	}
	if k := paths.Check(m, v, dist, via); k != api.OK {
		t.Fatalf("%s: From(%v, %d): via %v: Check says kind %d", what, m, v, via, int(k))
	}
	if k := checkOf(m, v, least, dist, via); k != api.OK {
		t.Fatalf("%s: From(%v, %d): via %v is wrong by the words", what, m, v, via)
	}
	return via
}

// The chapter's example: 0-1 of 5, 0-2 of 1, 2-1 of 2: 1 is 3 from 0.
func TestExample(t *testing.T) {
	m := multi(3, [3]int64{0, 1, 5}, [3]int64{0, 2, 1}, [3]int64{2, 1, 2})
	dist, via, k := paths.From(m, 0)
	if got := fmt.Sprint(dist, via, int(k)); got != "[0 3 1] [-1 2 1] 0" {
		t.Errorf("From: %s", got)
	}
	if got := fmt.Sprint(paths.Way(m, via, 1)); got != "[1 2]" {
		t.Errorf("Way: %s", got)
	}
}

// P1202: distances told by hand, and the via where there is just one.
func TestFromTold(t *testing.T) {
	for _, c := range []struct {
		what string
		m    api.Graph
		v    int
		want string
	}{
		{"a vertex alone", api.Graph{N: 1}, 0, "[0] [-1]"},
		{"no edge", api.Graph{N: 3}, 1, "[-1 0 -1] [-1 -1 -1]"},
		{"a loop", multi(1, [3]int64{0, 0, 4}), 0, "[0] [-1]"},
		{"a loop of weight 0", multi(1, [3]int64{0, 0, 0}), 0, "[0] [-1]"},
		{"an edge", multi(2, [3]int64{0, 1, 4}), 0, "[0 4] [-1 0]"},
		{"an edge, from its end", multi(2, [3]int64{0, 1, 4}), 1, "[4 0] [0 -1]"},
		{"an edge of weight 0", multi(2, [3]int64{1, 0, 0}), 0, "[0 0] [-1 0]"},
		{"side by side, the first is shorter", multi(2, [3]int64{0, 1, 3}, [3]int64{1, 0, 4}), 0, "[0 3] [-1 0]"},
		{"side by side, the last is shorter", multi(2, [3]int64{0, 1, 4}, [3]int64{1, 0, 3}), 0, "[0 3] [-1 1]"},
		{"a way from its end", multi(3, [3]int64{1, 2, 3}, [3]int64{1, 0, 2}), 0, "[0 2 5] [-1 1 0]"},
		{"a way from its middle", multi(3, [3]int64{1, 2, 3}, [3]int64{1, 0, 2}), 1, "[2 0 3] [1 -1 0]"},
		{"a ring, round the other way", multi(4, [3]int64{0, 1, 9}, [3]int64{1, 2, 1}, [3]int64{2, 3, 1}, [3]int64{3, 0, 1}), 0, "[0 3 2 1] [-1 1 2 3]"},
		{"several", multi(5, [3]int64{1, 3, 7}, [3]int64{0, 4, 0}, [3]int64{2, 2, 0}), 4, "[0 -1 -1 -1 0] [1 -1 -1 -1 -1]"},
		{"weights near to MaxW", multi(3, [3]int64{0, 1, api.MaxW - 1}, [3]int64{2, 1, api.MaxW - 1}), 0, "[0 2147483647 4294967294] [-1 0 1]"},
		{"a long one and many short ones", multi(4, [3]int64{0, 3, api.MaxW - 1}, [3]int64{0, 1, 1 << 30}, [3]int64{1, 2, 1 << 29}, [3]int64{2, 3, 1<<29 - 2}), 0,
			"[0 1073741824 1610612736 2147483646] [-1 1 2 3]"},
	} {
		dist, via, k := paths.From(c.m, c.v)
		if got := fmt.Sprint(dist, via); got != c.want || k != api.OK {
			t.Errorf("%s: %s, not %s, kind %d", c.what, got, c.want, int(k))
		}
	}
}

// P1202: multigraphs of many kinds, from each vertex, against distances that spread till no edge makes a shorter way.
func TestFromOfMany(t *testing.T) {
	for _, s := range samples() {
		for v := range s.m.N {
			isFrom(t, s.what, s.m, v, spreadOf(s.m, v))
		}
	}
}

// P1202: shapes whose distances are known.
func TestKnownDistances(t *testing.T) {
	for n := 1; n < 60; n += 7 {
		for v := 0; v < n; v += 3 {
			rows, ringed, starry := make([]int64, n), make([]int64, n), make([]int64, n)
			for u := range n {
				apart := max(u-v, v-u)
				rows[u], ringed[u] = int64(apart), int64(min(apart, n-apart))
				starry[u] = int64(min(apart, 1) + min(u, v, apart, 1))
			}
			isFrom(t, "way", way(n), v, rows)
			isFrom(t, "ring", ring(n), v, ringed)
			isFrom(t, "star", star(n), v, starry)
			isFrom(t, "squares", squares(n), v, rows)
		}
	}
	m := grid(6, 9)
	for v := range m.N {
		dist := make([]int64, m.N)
		for u := range m.N {
			x, y := u%9-v%9, u/9-v/9
			dist[u] = int64(max(x, -x) + max(y, -y))
		}
		isFrom(t, "grid", m, v, dist)
	}
}

// P1202: against all ways, of any multigraphs of few vertices.
func TestFromAgainstAllWays(t *testing.T) {
	d := dice(1202)
	for range 3000 {
		n := 1 + d.below(6)
		m := d.any(n, d.below(2*n+1), []int64{1, 2, 3, 10, api.MaxW}[d.below(5)])
		for v := range n {
			isFrom(t, "any", m, v, leastOf(m, v))
		}
	}
}
