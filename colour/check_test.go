package colour_test

import (
	"fmt"
	"math"
	"slices"
	"testing"

	"filigree/api"
	"filigree/colour"
)

// P1101: ordinary colours, and the edges that the chapter names.
func TestCheck(t *testing.T) {
	none, two, way, k4 := api.Graph{}, api.Graph{N: 2}, sorted(3, 0, 1, 1, 2), of(wheel(4))
	for _, c := range []struct {
		what string
		g    api.Graph
		c    []int
		most int
		want api.Kind
	}{
		{"no vertex", none, nil, 5, api.OK},
		{"no vertex, an empty list", none, []int{}, 1, api.OK},
		{"no vertex, no colour", none, nil, 0, api.OK},
		{"no vertex, most below 0", none, nil, -1, api.OK},
		{"no vertex, the least most", none, nil, math.MinInt, api.OK},
		{"no vertex, the greatest most", none, nil, math.MaxInt, api.OK},
		{"no vertex, a colour", none, []int{0}, 1, api.BadWitness},
		{"no edge", two, []int{0, 0}, 1, api.OK},
		{"no edge, two colours", two, []int{1, 0}, 2, api.OK},
		{"no edge, most of 0", two, []int{0, 0}, 0, api.BadWitness},
		{"no edge, most below 0", two, []int{0, 0}, -1, api.BadWitness},
		{"no edge, most and colours below 0", two, []int{-3, -3}, -1, api.BadWitness},
		{"no edge, the least most", two, []int{0, 0}, math.MinInt, api.BadWitness},
		{"no edge, the least most and colours", two, []int{math.MinInt, math.MinInt}, math.MinInt, api.BadWitness},
		{"a way", way, []int{0, 1, 0}, 2, api.OK},
		{"a way, other colours", way, []int{1, 0, 1}, 2, api.OK},
		{"a way, all differ", way, []int{2, 0, 1}, 3, api.OK},
		{"a way, colours left out", way, []int{0, 7, 3}, 8, api.OK},
		{"a way, the greatest most", way, []int{0, math.MaxInt - 1, 0}, math.MaxInt, api.OK},
		{"a way, a colour equal to the greatest most", way, []int{0, math.MaxInt, 0}, math.MaxInt, api.BadWitness},
		{"a way, a colour equal to most", way, []int{0, 2, 0}, 2, api.BadWitness},
		{"a way, the last colour equal to most", way, []int{0, 1, 2}, 2, api.BadWitness},
		{"a way, a colour above most", way, []int{0, math.MaxInt, 0}, 2, api.BadWitness},
		{"a way, a colour below 0", way, []int{0, -1, 0}, 2, api.BadWitness},
		{"a way, the least colour", way, []int{0, math.MinInt, 0}, 2, api.BadWitness},
		{"a way, the first edge's ends are alike", way, []int{1, 1, 0}, 2, api.BadWitness},
		{"a way, the last edge's ends are alike", way, []int{1, 0, 0}, 2, api.BadWitness},
		{"a way, too short", way, []int{0, 1}, 2, api.BadWitness},
		{"a way, too long", way, []int{0, 1, 0, 1}, 2, api.BadWitness},
		{"a way, no list", way, nil, 2, api.BadWitness},
		{"a way, an empty list", way, []int{}, 2, api.BadWitness},
		{"a way, most of 0", way, []int{0, 1, 0}, 0, api.BadWitness},
		{"a way, most of 1", way, []int{0, 1, 0}, 1, api.BadWitness},
		{"a way, most below 0", way, []int{0, 1, 0}, -2, api.BadWitness},
		{"K4", k4, []int{3, 1, 0, 2}, 4, api.OK},
		{"K4, most of 3", k4, []int{3, 1, 0, 2}, 3, api.BadWitness},
		{"K4, two alike", k4, []int{2, 1, 0, 2}, 4, api.BadWitness},
	} {
		if k := colour.Check(c.g, c.c, c.most); k != c.want {
			t.Errorf("%s: kind %d, not %d", c.what, int(k), int(c.want))
		}
	}
}

// The chapter's example: K4 in the plane has four colours at least.
func TestExample(t *testing.T) {
	g, r := of(wheel(4)), wheel(4)
	c := isFive(t, "K4", g, r)
	if used := colour.Used(c); used < 4 {
		t.Errorf("%d colours", used)
	}
	for most := range 4 {
		if k := colour.Check(g, c, most); k != api.BadWitness {
			t.Errorf("Check with %d: kind %d", most, int(k))
		}
	}
	lists(4, 0, 2, func(c []int) {
		if k := colour.Check(g, c, 3); k != api.BadWitness {
			t.Errorf("Check of %v with 3: kind %d", c, int(k))
		}
	})
}

// P1101: graphs that are not right, whatever the colours are.
func TestCheckWrongGraphs(t *testing.T) {
	for what, g := range wrongs() {
		for _, c := range [][]int{nil, {}, {0}, {0, 1, 0}, {0, 0, 0}, {-1, 7, 0, 0}, make([]int, 4096)} {
			for _, most := range []int{math.MinInt, 0, 5, math.MaxInt} {
				if k := colour.Check(g, c, most); k != api.BadArg {
					t.Errorf("%s, %d colours, most %d: kind %d", what, len(c), most, int(k))
				}
			}
		}
	}
}

// P1101, P7: right colours are spoilt at one place: one colour more or less, one that is none, an edge's two ends alike.
func TestSpoiltColours(t *testing.T) {
	isNone := func(what string, g api.Graph, c []int) {
		t.Helper()
		if k := colour.Check(g, c, 5); k != api.BadWitness {
			t.Fatalf("%s: Check of %v, %v: kind %d", what, g, c, int(k))
		}
	}
	for _, s := range inPlane() {
		c := isFive(t, s.what, s.g, s.r)
		isNone(s.what+", too long", s.g, append(slices.Clone(c), 0))
		for v := range c {
			for _, wrong := range []int{-1, 5, math.MinInt, math.MaxInt} {
				spoilt := slices.Clone(c)
				spoilt[v] = wrong
				isNone(fmt.Sprint(s.what, ", at ", v), s.g, spoilt)
			}
			isNone(s.what+", too short", s.g, c[:v])
		}
		for _, e := range s.g.E {
			spoilt := slices.Clone(c)
			spoilt[e.U] = c[e.V]
			isNone(fmt.Sprint(s.what, ", at ", e), s.g, spoilt)
			spoilt[e.U], spoilt[e.V] = c[e.U], c[e.U]
			isNone(fmt.Sprint(s.what, ", at ", e), s.g, spoilt)
		}
	}
}
