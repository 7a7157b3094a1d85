package rotation_test

import (
	"fmt"
	"slices"
	"testing"

	"filigree/api"
	"filigree/rotation"
)

// isOnce fails the test unless each dart is on one face.
func isOnce(t *testing.T, what string, g api.Graph, faces [][]api.Dart) {
	t.Helper()
	lists := rising(g)
	seen := make([][]bool, g.N)
	for v, list := range lists {
		seen[v] = make([]bool, len(list))
	}
	sum := 0
	for _, face := range faces {
		sum += len(face)
		for _, d := range face {
			at, there := slices.BinarySearch(lists[d.U], d.V)
			if !there || seen[d.U][at] {
				t.Fatalf("%s: dart %v is none, or there twice", what, d)
			}
			seen[d.U][at] = true
		}
	}
	if sum != 2*len(g.E) {
		t.Fatalf("%s: faces have %d darts of %d", what, sum, 2*len(g.E))
	}
}

// isLawful fails the test unless each dart is on one face and each number is even and at most 2. It answers the faces.
func isLawful(t *testing.T, what string, g api.Graph, r [][]int) int {
	t.Helper()
	faces, k := rotation.Faces(g, r)
	if k != api.OK {
		t.Fatalf("%s: Faces: kind %d", what, int(k))
	}
	isOnce(t, what, g, faces)
	numbers, k := rotation.Euler(g, r)
	if k != api.OK || slices.ContainsFunc(numbers, func(number int) bool { return number > 2 || number%2 != 0 }) {
		t.Fatalf("%s: %d numbers, not all even and at most 2, kind %d", what, len(numbers), int(k))
	}
	return len(faces)
}

// P704: each dart is on one face; a number is even, and at most 2; the mirror has as many faces, and is in the plane
// just if the system is.
func TestLaws(t *testing.T) {
	inPlane := map[api.Kind]int{}
	for _, s := range samples() {
		mirror := rotation.Mirror(s.r)
		what := fmt.Sprint(s.g, s.r)
		if a, b := isLawful(t, what, s.g, s.r), isLawful(t, what+", mirror", s.g, mirror); a != b {
			t.Fatalf("%s: %d faces, the mirror %d", what, a, b)
		}
		k := rotation.Plane(s.g, s.r)
		if again := rotation.Plane(s.g, mirror); again != k {
			t.Fatalf("%s: kind %d, the mirror %d", what, int(k), int(again))
		}
		inPlane[k]++
	}
	if inPlane[api.OK] == 0 || inPlane[api.BadRotation] == 0 {
		t.Errorf("samples in the plane and such as are not are asked for: %v", inPlane)
	}
}

// P703, P704: the mirror's mirror is the system; Canon is its own Canon, has the same faces, and is the same wherever lists begin.
func TestMirrorAndCanon(t *testing.T) {
	d := dice(703)
	for _, s := range samples() {
		if twice := rotation.Mirror(rotation.Mirror(s.r)); !slices.EqualFunc(twice, s.r, slices.Equal) {
			t.Fatalf("Mirror of Mirror of %v: %v", s.r, twice)
		}
		canon, _ := rotation.Canon(s.g, s.r)
		again, _ := rotation.Canon(s.g, canon)
		turned, _ := rotation.Canon(s.g, d.turned(s.r))
		if !slices.EqualFunc(again, canon, slices.Equal) || !slices.EqualFunc(turned, canon, slices.Equal) {
			t.Fatalf("Canon of %v: %v, then %v, turned %v", s.r, canon, again, turned)
		}
		faces, _ := rotation.Faces(s.g, s.r)
		same, _ := rotation.Faces(s.g, canon)
		if !slices.EqualFunc(faces, same, slices.Equal) {
			t.Fatalf("Faces of %v: %v, from the least on %v", s.r, faces, same)
		}
	}
}

// P704: a forest is in the plane in any system; each of its trees has one face.
func TestForests(t *testing.T) {
	d := dice(704)
	for range 300 {
		g := d.forest(1 + d.below(30))
		r := d.system(g)
		if k := rotation.Plane(g, r); k != api.OK {
			t.Fatalf("Plane of %v, %v: kind %d", g, r, int(k))
		}
		trees := 0
		for v, least := range leastOf(g) {
			if v == least && len(r[v]) > 0 {
				trees++
			}
		}
		if faces, _ := rotation.Faces(g, r); len(faces) != trees {
			t.Fatalf("Faces of %v, %v: %v", g, r, faces)
		}
	}
}

// P704: every system of every tree of 5 vertices is in the plane.
func TestSmallTrees(t *testing.T) {
	smalls(5, func(g api.Graph) {
		if len(g.E) != 4 || slices.Max(leastOf(g)) != 0 {
			return
		}
		systems(g, 0, func(r [][]int) {
			if k := rotation.Plane(g, r); k != api.OK {
				t.Fatalf("Plane of %v, %v: kind %d", g, r, int(k))
			}
		})
	})
}

// P702: how many systems of a graph have which number is known of some.
func TestKnownNumbers(t *testing.T) {
	for _, c := range []struct {
		what string
		g    api.Graph
		want map[int]int
	}{
		{"K4", sorted(4, among(0, 1, 2, 3)...), map[int]int{2: 2, 0: 14}},
		{"K5", sorted(5, among(0, 1, 2, 3, 4)...), map[int]int{0: 462, -2: 4974, -4: 2340}},
		{"K3,3", sorted(6, between(3, 3)...), map[int]int{0: 40, -2: 24}},
	} {
		got := map[int]int{}
		systems(c.g, 1, func(r [][]int) {
			numbers, _ := rotation.Euler(c.g, r)
			got[numbers[0]]++
		})
		isText(t, c.what, got, c.want)
	}
}

// P702: systems whose faces are known: K7 on a ring has triangles, a grid has squares and its outside.
func TestKnownFaces(t *testing.T) {
	seven := make([][]int, 7)
	for v := range seven {
		for _, step := range []int{1, 3, 2, 6, 4, 5} {
			seven[v] = append(seven[v], (v+step)%7)
		}
	}
	for _, c := range []struct {
		what   string
		r      [][]int
		faces  int
		longer int // of these how many are longer than the others
		short  int // how long the others are
		number int
	}{
		{"K7", seven, 14, 0, 3, 0},
		{"a grid", grid(6, 9), 41, 1, 4, 2},
		{"a ring", ring(5, 7), 35, 0, 4, 0},
	} {
		faces, k := rotation.Faces(of(c.r), c.r)
		longer := 0
		for _, face := range faces {
			if len(face) > c.short {
				longer++
			} else if len(face) < c.short {
				t.Errorf("%s: face %v", c.what, face)
			}
		}
		if k != api.OK || len(faces) != c.faces || longer != c.longer {
			t.Errorf("%s: %d faces, %d longer, kind %d", c.what, len(faces), longer, int(k))
		}
		numbers, _ := rotation.Euler(of(c.r), c.r)
		isText(t, c.what, numbers, []int{c.number})
	}
}

// P702: what lies beside changes no face and no number; numbers stand in the order of the components' least vertices.
func TestBeside(t *testing.T) {
	list := samples()
	for i, a := range list[1:] {
		b := list[i]
		r := beside(a.r, b.r)
		numbers, k := rotation.Euler(of(r), r)
		first, _ := rotation.Euler(a.g, a.r)
		last, _ := rotation.Euler(b.g, b.r)
		if want := slices.Concat(first, last); k != api.OK || !slices.Equal(numbers, want) {
			t.Fatalf("Euler of %v: %v, kind %d, not %v", r, numbers, int(k), want)
		}
		plane := max(rotation.Plane(a.g, a.r), rotation.Plane(b.g, b.r))
		if k := rotation.Plane(of(r), r); k != plane {
			t.Fatalf("Plane of %v: kind %d, not %d", r, int(k), int(plane))
		}
	}
}

// P701 to P703: weights change nothing.
func TestWeightsMeanNothing(t *testing.T) {
	for _, s := range samples() {
		h := api.Graph{N: s.g.N, E: slices.Clone(s.g.E)}
		for i := range h.E {
			h.E[i].W = int64(i%3-1) * (api.MaxW - 1)
		}
		answers := func(g api.Graph) string {
			faces, _ := rotation.Faces(g, s.r)
			numbers, _ := rotation.Euler(g, s.r)
			canon, _ := rotation.Canon(g, s.r)
			return fmt.Sprint(faces, numbers, canon, int(rotation.Plane(g, s.r)))
		}
		isText(t, "other weights", answers(h), answers(s.g))
	}
}
