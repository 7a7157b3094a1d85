package rotation_test

import (
	"fmt"
	"testing"

	"filigree/api"
	"filigree/rotation"
)

// told is a system with its answers written out.
type told struct {
	what   string
	r      [][]int
	faces  string // each face by the vertices that its darts leave
	euler  string
	plane  api.Kind
	canon  string
	mirror string
}

func cases() []told {
	return []told{
		{"no vertex", nil, "[]", "[]", api.OK, "[]", "[]"},
		{"no vertex, an empty list", [][]int{}, "[]", "[]", api.OK, "[]", "[]"},
		{"one vertex", [][]int{nil}, "[]", "[2]", api.OK, "[[]]", "[[]]"},
		{"vertices and no edge", [][]int{{}, nil, {}}, "[]", "[2 2 2]", api.OK, "[[] [] []]", "[[] [] []]"},
		{"one edge alone", [][]int{{1}, {0}}, "[[0 1]]", "[2]", api.OK, "[[1] [0]]", "[[1] [0]]"},
		{"one edge beside others", [][]int{{}, {3}, {}, {1}}, "[[1 3]]", "[2 2 2]", api.OK, "[[] [3] [] [1]]", "[[] [3] [] [1]]"},
		{"two edges", [][]int{{3}, {2}, {1}, {0}}, "[[0 3] [1 2]]", "[2 2]", api.OK, "[[3] [2] [1] [0]]", "[[3] [2] [1] [0]]"},
		{"a way", [][]int{{1}, {0, 2}, {1}}, "[[0 1 2 1]]", "[2]", api.OK, "[[1] [0 2] [1]]", "[[1] [2 0] [1]]"},
		{"a star", [][]int{{2, 1, 3}, {0}, {0}, {0}}, "[[0 1 0 3 0 2]]", "[2]", api.OK, "[[1 3 2] [0] [0] [0]]", "[[3 1 2] [0] [0] [0]]"},
		{"the chapter's example", [][]int{{1, 2}, {0, 2}, {0, 1}}, "[[0 1 2] [0 2 1]]", "[2]", api.OK, "[[1 2] [0 2] [0 1]]", "[[2 1] [2 0] [1 0]]"},
		{"a triangle, turned", [][]int{{2, 1}, {2, 0}, {1, 0}}, "[[0 1 2] [0 2 1]]", "[2]", api.OK, "[[1 2] [0 2] [0 1]]", "[[1 2] [0 2] [0 1]]"},
		{"a closed way of 4", [][]int{{3, 2}, {2, 3}, {1, 0}, {0, 1}}, "[[0 2 1 3] [0 3 1 2]]", "[2]", api.OK, "[[2 3] [2 3] [0 1] [0 1]]", "[[2 3] [3 2] [0 1] [1 0]]"},
		{"K4 in the plane", [][]int{{1, 2, 3}, {0, 3, 2}, {0, 1, 3}, {0, 2, 1}}, "[[0 1 3] [0 2 1] [0 3 2] [1 2 3]]", "[2]", api.OK, "[[1 2 3] [0 3 2] [0 1 3] [0 2 1]]", "[[3 2 1] [2 3 0] [3 1 0] [1 2 0]]"},
		{"K4 not in the plane", [][]int{{2, 1, 3}, {0, 3, 2}, {0, 1, 3}, {0, 2, 1}}, "[[0 1 3 0 2 1 0 3 2] [1 2 3]]", "[0]", api.BadRotation, "[[1 3 2] [0 3 2] [0 1 3] [0 2 1]]", "[[3 1 2] [2 3 0] [3 1 0] [1 2 0]]"},
		{"a bridge", [][]int{{2, 1}, {0, 2}, {3, 0, 1}, {2}}, "[[0 1 2 3 2] [0 2 1]]", "[2]", api.OK, "[[1 2] [0 2] [0 1 3] [2]]", "[[1 2] [2 0] [1 0 3] [2]]"},
		{"two triangles at one vertex, beside each other", [][]int{{1, 2, 3, 4}, {0, 2}, {1, 0}, {0, 4}, {3, 0}}, "[[0 1 2 0 3 4] [0 2 1] [0 4 3]]", "[2]", api.OK, "[[1 2 3 4] [0 2] [0 1] [0 4] [0 3]]", "[[4 3 2 1] [2 0] [0 1] [4 0] [0 3]]"},
		{"two triangles at one vertex, across each other", [][]int{{1, 3, 2, 4}, {0, 2}, {1, 0}, {0, 4}, {3, 0}}, "[[0 1 2 0 4 3 0 2 1 0 3 4]]", "[0]", api.BadRotation, "[[1 3 2 4] [0 2] [0 1] [0 4] [0 3]]", "[[4 2 3 1] [2 0] [0 1] [4 0] [0 3]]"},
		{"a vertex alone beside a triangle", [][]int{{3, 2}, nil, {0, 3}, {0, 2}}, "[[0 2 3] [0 3 2]]", "[2 2]", api.OK, "[[2 3] [] [0 3] [0 2]]", "[[2 3] [] [3 0] [2 0]]"},
		{"the first not in the plane", beside([][]int{{2, 1, 3}, {0, 3, 2}, {0, 1, 3}, {0, 2, 1}}, [][]int{{1}, {0}}), "[[0 1 3 0 2 1 0 3 2] [1 2 3] [4 5]]", "[0 2]", api.BadRotation, "[[1 3 2] [0 3 2] [0 1 3] [0 2 1] [5] [4]]", "[[3 1 2] [2 3 0] [3 1 0] [1 2 0] [5] [4]]"},
		{"the last not in the plane", beside([][]int{{1}, {0}}, [][]int{{2, 1, 3}, {0, 3, 2}, {0, 1, 3}, {0, 2, 1}}), "[[0 1] [2 3 5 2 4 3 2 5 4] [3 4 5]]", "[2 0]", api.BadRotation, "[[1] [0] [3 5 4] [2 5 4] [2 3 5] [2 4 3]]", "[[1] [0] [5 3 4] [4 5 2] [5 3 2] [3 4 2]]"},
	}
}

// left is of each face the vertices that its darts leave; it fails the test, if a dart does not end where the next one begins.
func left(t *testing.T, faces [][]api.Dart) string {
	t.Helper()
	lists := make([][]int, len(faces))
	for i, face := range faces {
		for j, d := range face {
			lists[i] = append(lists[i], d.U)
			if next := face[(j+1)%len(face)]; d.V != next.U {
				t.Errorf("dart %v is followed by %v", d, next)
			}
		}
	}
	return fmt.Sprint(lists)
}

// isText fails the test unless both are the same.
func isText(t *testing.T, what string, got, want any) {
	t.Helper()
	if fmt.Sprint(got) != fmt.Sprint(want) {
		t.Errorf("%s: %v, not %v", what, got, want)
	}
}

// P701: systems are right.
func TestRightTold(t *testing.T) {
	for _, c := range cases() {
		isText(t, c.what, int(rotation.Right(of(c.r), c.r)), int(api.OK))
	}
}

// P702: what is written out.
func TestFacesTold(t *testing.T) {
	for _, c := range cases() {
		g := of(c.r)
		faces, k := rotation.Faces(g, c.r)
		isText(t, c.what+": Faces", left(t, faces), c.faces)
		isText(t, c.what+": Faces, kind", int(k), int(api.OK))
		numbers, k := rotation.Euler(g, c.r)
		isText(t, c.what+": Euler", numbers, c.euler)
		isText(t, c.what+": Euler, kind", int(k), int(api.OK))
		isText(t, c.what+": Plane", int(rotation.Plane(g, c.r)), int(c.plane))
	}
}

// P703: what is written out.
func TestCanonTold(t *testing.T) {
	for _, c := range cases() {
		canon, k := rotation.Canon(of(c.r), c.r)
		isText(t, c.what+": Canon", canon, c.canon)
		isText(t, c.what+": Canon, kind", int(k), int(api.OK))
		isText(t, c.what+": Mirror", rotation.Mirror(c.r), c.mirror)
	}
}

// P703: lists that are no system have a mirror too.
func TestMirrorOfAny(t *testing.T) {
	r := [][]int{{7, -1, 7}, nil, {5}, {}, {9, 9, 8, 8}, {1, 2, 3, 4, 5}}
	isText(t, "Mirror", rotation.Mirror(r), "[[7 -1 7] [] [5] [] [8 8 9 9] [5 4 3 2 1]]")
}
