package faces_test

import (
	"slices"
	"testing"

	"filigree/api"
	"filigree/faces"
	"filigree/parts"
	"filigree/rotation"
)

// isLawful fails the test unless all laws hold of what is told.
func isLawful(t *testing.T, what string, g api.Graph, r [][]int) {
	t.Helper()
	isBridged(t, what, g, r)
	isEvenly(t, what, g, r)
	isJoined(t, what, g, r)
}

// isBridged fails the test unless an edge's two sides are one face just if it is a bridge.
func isBridged(t *testing.T, what string, g api.Graph, r [][]int) {
	t.Helper()
	sides, k := faces.Sides(g, r)
	if k != api.OK || len(sides) != len(g.E) {
		t.Fatalf("%s: %d sides of %d edges, kind %d", what, len(sides), len(g.E), int(k))
	}
	var bridges []int
	for place, side := range sides {
		if side[0] == side[1] {
			bridges = append(bridges, place)
		}
	}
	if want := parts.Bridges(g); !slices.Equal(bridges, want) {
		t.Fatalf("%s: one face on both sides of %v, not of %v", what, bridges, want)
	}
}

// isEvenly fails the test unless the dual's degrees, a loop counted twice, are the lengths.
func isEvenly(t *testing.T, what string, g api.Graph, r [][]int) {
	t.Helper()
	dual, k := faces.Dual(g, r)
	if k != api.OK {
		t.Fatalf("%s: Dual: kind %d", what, int(k))
	}
	degrees := make([]int, dual.N)
	for _, e := range dual.E {
		degrees[e.U]++
		degrees[e.V]++
	}
	lengths, k := faces.Lengths(g, r)
	if k != api.OK || !slices.Equal(degrees, lengths) {
		t.Fatalf("%s: degrees and lengths are not the same, kind %d", what, int(k))
	}
	sum := 0
	for _, length := range lengths {
		sum += length
	}
	if sum != 2*len(g.E) {
		t.Fatalf("%s: %d darts of %d", what, sum, 2*len(g.E))
	}
}

// isJoined fails the test unless what is joined is one component, in the plane, with the same edges otherwise.
func isJoined(t *testing.T, what string, g api.Graph, r [][]int) {
	t.Helper()
	joined, lists, k := faces.Joined(g, r)
	if k != api.OK || rotation.Plane(joined, lists) != api.OK || joined.N != g.N {
		t.Fatalf("%s: Joined: kind %d, or not in the plane", what, int(k))
	}
	components := len(parts.Components(g))
	if got := len(parts.Components(joined)); got != min(components, 1) {
		t.Fatalf("%s: %d components", what, got)
	}
	old := slices.DeleteFunc(slices.Clone(joined.E), func(e api.Edge) bool { return e.U == 0 && !slices.Contains(r[0], e.V) })
	if !slices.Equal(old, g.E) || len(joined.E) != len(g.E)+max(components, 1)-1 {
		t.Fatalf("%s: %d edges, %d of them as before, of %d edges in %d components", what, len(joined.E), len(old), len(g.E), components)
	}
	for v, list := range r {
		if !slices.Equal(list, lists[v][:len(list)]) {
			t.Fatalf("%s: the list of %d begins otherwise", what, v)
		}
	}
}

// P1004: on systems of many kinds, and on what is joined of them.
func TestLaws(t *testing.T) {
	for _, s := range inPlane() {
		isLawful(t, s.what, s.g, s.r)
		joined, lists, _ := faces.Joined(s.g, s.r)
		isLawful(t, s.what+", joined", joined, lists)
	}
}

// P1004: each new edge is a bridge.
func TestNewEdgesAreBridges(t *testing.T) {
	for _, s := range inPlane() {
		joined, lists, _ := faces.Joined(s.g, s.r)
		sides, _ := faces.Sides(joined, lists)
		others := othersOf(s.g)
		for place, e := range joined.E {
			if e.U == 0 && slices.Contains(others, e.V) && sides[place][0] != sides[place][1] {
				t.Fatalf("%s: new edge %v: sides %v", s.what, e, sides[place])
			}
		}
	}
}

// P1001, P1002: the mirror has the same faces, gone the other way: what lies beside each other does so still.
func TestMirror(t *testing.T) {
	for _, s := range inPlane() {
		sides, _ := faces.Sides(s.g, s.r)
		mirror, _ := faces.Sides(s.g, rotation.Mirror(s.r))
		name := map[int]int{}
		for place, side := range mirror {
			for i, face := range side {
				before, there := name[face]
				if now := sides[place][1-i]; there && before != now {
					t.Fatalf("%s: face %d of the mirror is face %d and face %d", s.what, face, before, now)
				}
				name[face] = sides[place][1-i]
			}
		}
		lengths, _ := faces.Lengths(s.g, s.r)
		turned, _ := faces.Lengths(s.g, rotation.Mirror(s.r))
		if len(name) != len(lengths) || len(turned) != len(lengths) {
			t.Fatalf("%s: %d faces, the mirror %d, beside edges %d", s.what, len(lengths), len(turned), len(name))
		}
		for face, length := range turned {
			if length != lengths[name[face]] {
				t.Fatalf("%s: face %d of the mirror has %d darts, not %d", s.what, face, length, lengths[name[face]])
			}
		}
	}
}
