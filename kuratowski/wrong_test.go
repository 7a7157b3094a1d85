package kuratowski_test

import (
	"math"
	"slices"
	"testing"

	"filigree/api"
	"filigree/kuratowski"
)

// isRefused fails the test unless all calls answer BadArg, and nothing else.
func isRefused(t *testing.T, what string, g api.Graph, in []int) {
	t.Helper()
	if ways, k := kuratowski.Ways(g, in); len(ways) > 0 || k != api.BadArg {
		t.Errorf("%s: Ways: %d ways, kind %d", what, len(ways), int(k))
	}
	if class, k := kuratowski.Class(g, in); class != 0 || k != api.BadArg {
		t.Errorf("%s: Class: %d, kind %d", what, class, int(k))
	}
	if k := kuratowski.Check(g, in); k != api.BadArg {
		t.Errorf("%s: Check: kind %d", what, int(k))
	}
}

// P801, P802: graphs that are not right, whatever places are told.
func TestWrongGraphs(t *testing.T) {
	for what, g := range wrongs() {
		for _, in := range [][]int{nil, {}, {0}, {-1}, {0, 0}, {1, 2}, {math.MaxInt}} {
			isRefused(t, what, g, in)
		}
	}
}

// P801, P802: a witness whose graph is spoilt at an edge that is not of it.
func TestSpoiltBeside(t *testing.T) {
	g := sorted(7, append(among(upTo(5)...), 5, 6)...)
	isClass(t, "K5", g, upTo(10), 5)
	g.E[10].W = api.MaxW
	isRefused(t, "a weight beside K5", g, upTo(10))
	g.E[10] = api.Edge{U: 6, V: 5}
	isRefused(t, "ends turned beside K5", g, upTo(10))
	g.E[10] = g.E[9]
	isRefused(t, "an edge twice beside K5", g, upTo(10))
}

// P801, P802: places that are none, or there twice, also where the others are a witness, or are none.
func TestWrongPlaces(t *testing.T) {
	five := sorted(5, among(upTo(5)...)...)
	for _, c := range []struct {
		what string
		in   []int
	}{
		{"below 0", append(upTo(10), -1)},
		{"below 0, first", append([]int{-1}, upTo(10)...)},
		{"one past the last", append(upTo(10), 10)},
		{"the least", append(upTo(10), math.MinInt)},
		{"the greatest", append(upTo(10), math.MaxInt)},
		{"in a witness's stead", append(upTo(9), 10)},
		{"twice", append(upTo(10), 0)},
		{"the last twice", append(upTo(10), 9)},
		{"all twice", append(upTo(10), upTo(10)...)},
		{"twice, and one lacks", append(upTo(9), 3)},
		{"alone below 0", []int{-1}},
		{"alone past the last", []int{10}},
		{"an edge twice, no witness", []int{0, 0}},
		{"an edge of degree 1, and one that is none", []int{0, 77}},
		{"a triangle, one of it twice", append(places(five, round(0, 1, 2)...), 0)},
		{"twice, and none", []int{4, 4, -5}},
	} {
		isRefused(t, c.what, five, c.in)
	}
	isRefused(t, "a place of no edges", api.Graph{N: 3}, []int{0})
	isRefused(t, "a place of no vertex", api.Graph{}, []int{0})
}

// P801, P802: each witness, a place of which is told once more, or is told wrong.
func TestSpoiltPlaces(t *testing.T) {
	for _, s := range all() {
		for _, i := range []int{0, len(s.in) / 2, len(s.in) - 1} {
			isRefused(t, "twice", s.g, append(slices.Clone(s.in), s.in[i]))
			spoilt := slices.Clone(s.in)
			spoilt[i] = len(s.g.E)
			isRefused(t, "past the last", s.g, spoilt)
			spoilt[i] = ^spoilt[i]
			isRefused(t, "below 0", s.g, spoilt)
			spoilt[i] = s.in[(i+1)%len(s.in)]
			isRefused(t, "another's", s.g, spoilt)
		}
	}
}
