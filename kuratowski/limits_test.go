package kuratowski_test

import (
	"slices"
	"testing"

	"filigree/api"
	"filigree/kuratowski"
)

// P801, P802: MaxN vertices, and no edge.
func TestMostVertices(t *testing.T) {
	g := api.Graph{N: api.MaxN}
	if ways, k := kuratowski.Ways(g, nil); len(ways) > 0 || k != api.OK {
		t.Errorf("%d ways, kind %d", len(ways), int(k))
	}
	if class, k := kuratowski.Class(g, nil); class != 0 || k != api.BadWitness {
		t.Errorf("class %d, kind %d", class, int(k))
	}
}

// stretched is the graph of MaxN vertices in which the first pair of these ends is a way over all vertices from n on.
func stretched(n int, ends []int) api.Graph {
	list := append([]int{ends[0]}, upTo(api.MaxN)[n:]...)
	return sorted(api.MaxN, append(along(append(list, ends[1])...), ends[2:]...)...)
}

// P801, P802, P803: ways of as many vertices as there may be.
func TestLongWays(t *testing.T) {
	for class, g := range map[int]api.Graph{5: stretched(5, among(upTo(5)...)), 33: stretched(6, between(3, 3))} {
		in := upTo(len(g.E))
		if got, k := kuratowski.Class(g, in); got != class || k != api.OK {
			t.Errorf("class %d, kind %d, not %d", got, int(k), class)
		}
		ways, k := kuratowski.Ways(g, in)
		sum := 0
		for _, way := range ways {
			sum += len(way) - 1
		}
		if k != api.OK || sum != len(g.E) || !slices.IsSortedFunc(ways, slices.Compare) {
			t.Errorf("ways of %d edges, not %d, kind %d, or not sorted", sum, len(g.E), int(k))
		}
		for _, left := range []int{0, len(in) / 2, len(in) - 1} {
			if k := kuratowski.Check(g, slices.Delete(upTo(len(g.E)), left, left+1)); k != api.BadWitness {
				t.Errorf("an edge less: kind %d", int(k))
			}
		}
	}
}

// P801: one closed way of MaxN vertices is no way, but with one more edge there are three.
func TestLongClosedWay(t *testing.T) {
	n := api.MaxN
	g := sorted(n, append(round(upTo(n)...), 0, n/2)...)
	chord := places(g, 0, n/2)[0]
	if ways, k := kuratowski.Ways(g, slices.Delete(upTo(n+1), chord, chord+1)); len(ways) > 0 || k != api.BadWitness {
		t.Errorf("closed: %d ways, kind %d", len(ways), int(k))
	}
	ways, k := kuratowski.Ways(g, upTo(n+1))
	if k != api.OK || len(ways) != 3 {
		t.Fatalf("%d ways, kind %d", len(ways), int(k))
	}
	back := append([]int{0}, upTo(n)[n/2:]...)
	slices.Reverse(back[1:])
	if !slices.Equal(ways[0], upTo(n/2+1)) || !slices.Equal(ways[1], []int{0, n / 2}) || !slices.Equal(ways[2], back) {
		t.Errorf("other ways: %d, %d, %d vertices", len(ways[0]), len(ways[1]), len(ways[2]))
	}
}

// P801: MaxM edges, each of them a way.
func TestMostEdges(t *testing.T) {
	g := full(api.MaxM)
	in := upTo(len(g.E))
	slices.Reverse(in)
	ways, k := kuratowski.Ways(g, in)
	if k != api.OK || len(ways) != len(g.E) {
		t.Fatalf("%d ways, kind %d", len(ways), int(k))
	}
	for i, e := range g.E {
		if !slices.Equal(ways[i], []int{e.U, e.V}) {
			t.Fatalf("way %d: %v, not %v", i, ways[i], e)
		}
	}
	if class, k := kuratowski.Class(g, in); class != 0 || k != api.BadWitness {
		t.Errorf("class %d, kind %d", class, int(k))
	}
	five := places(g, among(upTo(5)...)...)
	if class, k := kuratowski.Class(g, five); class != 5 || k != api.OK {
		t.Errorf("five of them: class %d, kind %d", class, int(k))
	}
	isRefused(t, "MaxM places, and one twice", g, append(in, 0))
}
