package rotation_test

import (
	"slices"
	"testing"

	"filigree/api"
	"filigree/rotation"
)

// P701 to P704: MaxN vertices, and no edge.
func TestMostVertices(t *testing.T) {
	g := api.Graph{N: api.MaxN}
	r := make([][]int, g.N)
	if faces := isLawful(t, "no edge", g, r); faces != 0 {
		t.Errorf("%d faces", faces)
	}
	numbers, _ := rotation.Euler(g, r)
	if len(numbers) != g.N || slices.Min(numbers) != 2 || rotation.Plane(g, r) != api.OK {
		t.Errorf("%d numbers, or not in the plane", len(numbers))
	}
	canon, k := rotation.Canon(g, r)
	if len(canon) != g.N || k != api.OK || len(rotation.Mirror(r)) != g.N {
		t.Errorf("Canon: %d lists, kind %d", len(canon), int(k))
	}
}

// P702: a way of MaxN vertices has one face, there and back.
func TestLongWay(t *testing.T) {
	n := api.MaxN
	g := sorted(n, along(upTo(n)...)...)
	faces, k := rotation.Faces(g, rising(g))
	if k != api.OK || len(faces) != 1 || len(faces[0]) != 2*n-2 {
		t.Fatalf("%d faces, kind %d", len(faces), int(k))
	}
	for i, d := range faces[0] {
		want := api.Dart{U: i, V: i + 1}
		if i >= n-1 {
			want = api.Dart{U: 2*n - 2 - i, V: 2*n - 3 - i}
		}
		if d != want {
			t.Fatalf("dart %d: %v, not %v", i, d, want)
		}
	}
	if k := rotation.Plane(g, rising(g)); k != api.OK {
		t.Errorf("Plane: kind %d", int(k))
	}
}

// P702, P703: MaxN - 1 vertices around one.
func TestGreatStar(t *testing.T) {
	d := dice(702)
	g := api.Graph{N: api.MaxN}
	for v := 1; v < g.N; v++ {
		g.E = append(g.E, api.Edge{U: 0, V: v})
	}
	r := d.system(g)
	if faces := isLawful(t, "a star", g, r); faces != 1 || rotation.Plane(g, r) != api.OK {
		t.Errorf("%d faces, or not in the plane", faces)
	}
	canon, k := rotation.Canon(g, r)
	at := slices.Index(r[0], 1)
	if k != api.OK || !slices.Equal(canon[0], slices.Concat(r[0][at:], r[0][:at])) {
		t.Errorf("Canon: kind %d, or another list", int(k))
	}
	if next, there := rotation.Next(r, api.Dart{U: r[0][g.N-2], V: 0}); !there || next != (api.Dart{U: 0, V: r[0][0]}) {
		t.Errorf("Next of the last: %v, %v", next, there)
	}
}

// P702: MaxN vertices in a grid, with as many faces as are known.
func TestGreatGrid(t *testing.T) {
	const side = 1 << 10
	r := grid(side, side)
	g := of(r)
	faces, k := rotation.Faces(g, r)
	if k != api.OK || len(faces) != (side-1)*(side-1)+1 || rotation.Plane(g, r) != api.OK {
		t.Errorf("%d faces, kind %d, or not in the plane", len(faces), int(k))
	}
	isOnce(t, "a grid", g, faces)
}

// P702: a great ring is not in the plane, and has as many faces as are known.
func TestGreatRing(t *testing.T) {
	const side = 1 << 9
	r := ring(side, side)
	g := of(r)
	if faces := isLawful(t, "a ring", g, r); faces != side*side || rotation.Plane(g, r) != api.BadRotation {
		t.Errorf("%d faces, or in the plane", faces)
	}
}

// P701, P702: MaxM edges.
func TestMostEdges(t *testing.T) {
	g := full(api.MaxM)
	r := rising(g)
	faces, k := rotation.Faces(g, r)
	if k != api.OK {
		t.Fatalf("Faces: kind %d", int(k))
	}
	isOnce(t, "full", g, faces)
	if k := rotation.Plane(g, r); k != api.BadRotation {
		t.Errorf("Plane: kind %d", int(k))
	}
	r[0][0] = 0
	if k := rotation.Right(g, r); k != api.BadRotation {
		t.Errorf("Right of a spoilt one: kind %d", int(k))
	}
}
