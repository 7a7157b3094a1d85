package colour_test

import (
	"slices"
	"testing"

	"filigree/api"
	"filigree/colour"
)

// This file holds the chapter's words themselves: slow, and plain.

// checkOf is the kind that the words give of colours on a right graph.
func checkOf(g api.Graph, c []int, most int) api.Kind {
	if len(c) != g.N {
		return api.BadWitness
	}
	for _, colour := range c {
		if colour < 0 || colour >= most {
			return api.BadWitness
		}
	}
	for _, e := range g.E {
		if c[e.U] == c[e.V] {
			return api.BadWitness
		}
	}
	return api.OK
}

// greedyOf is the colours that the words give: each vertex asks for each colour from 0 on whether a neighbour has it that
// stands ahead of it in the order.
func greedyOf(g api.Graph, order []int) []int {
	near := rising(g)
	c := make([]int, g.N)
	for i, v := range order {
		isTaken := func(colour int) bool {
			return slices.ContainsFunc(order[:i], func(u int) bool { return c[u] == colour && slices.Contains(near[v], u) })
		}
		for isTaken(c[v]) {
			c[v]++
		}
	}
	return c
}

// mostDegree is the greatest degree of a graph.
func mostDegree(g api.Graph) int {
	most := 0
	for _, list := range rising(g) {
		most = max(most, len(list))
	}
	return most
}

// isChecked fails the test unless Check's kind is the one of the words.
func isChecked(t *testing.T, what string, g api.Graph, c []int, most int) {
	t.Helper()
	if k, want := colour.Check(g, c, most), checkOf(g, c, most); k != want {
		t.Fatalf("%s: Check of %v, %v with %d: kind %d, not %d", what, g, c, most, int(k), int(want))
	}
}

// isGreedy fails the test unless Greedy's colours are those of the words, and as the laws say.
func isGreedy(t *testing.T, what string, g api.Graph, order []int) {
	t.Helper()
	c, k := colour.Greedy(g, order)
	if want := greedyOf(g, order); k != api.OK || !slices.Equal(c, want) {
		t.Fatalf("%s: Greedy of %v in %v: %v, kind %d, not %v", what, g, order, c, int(k), want)
	}
	isLawful(t, what, g, c)
}

// isLawful fails the test unless colours are right, and at most 1 more than the greatest degree.
func isLawful(t *testing.T, what string, g api.Graph, c []int) {
	t.Helper()
	most := mostDegree(g) + 1
	if g.N == 0 {
		most = 0
	}
	if used := colour.Used(c); used > most {
		t.Fatalf("%s: %d colours of %v, the greatest degree is %d", what, used, g, most-1)
	}
	for _, m := range []int{colour.Used(c), most} {
		if k := colour.Check(g, c, m); k != api.OK || checkOf(g, c, m) != api.OK {
			t.Fatalf("%s: %v are no %d colours of %v: kind %d", what, c, m, g, int(k))
		}
	}
}

// isFive fails the test unless Five's colours are right, by Check and by the words. It answers them.
func isFive(t *testing.T, what string, g api.Graph, r [][]int) []int {
	t.Helper()
	c, k := colour.Five(g, r)
	if k != api.OK {
		t.Fatalf("%s: Five of %v, %v: kind %d", what, g, r, int(k))
	}
	if k := colour.Check(g, c, 5); k != api.OK || checkOf(g, c, 5) != api.OK || colour.Used(c) > 5 {
		t.Fatalf("%s: %v are no five colours of %v: kind %d", what, c, g, int(k))
	}
	return c
}
