package rotation_test

import (
	"slices"
	"testing"

	"filigree/api"
	"filigree/rotation"
)

// smalls hands out every graph of n vertices.
func smalls(n int, with func(g api.Graph)) {
	pairs := among(upTo(n)...)
	for set := range 1 << (len(pairs) / 2) {
		var ends []int
		for i := 0; i < len(pairs); i += 2 {
			if set>>(i/2)&1 == 1 {
				ends = append(ends, pairs[i], pairs[i+1])
			}
		}
		with(sorted(n, ends...))
	}
}

// orders is every order of a list in which the first fixed ones stay.
func orders(list []int, fixed int) [][]int {
	if fixed >= len(list) {
		return [][]int{slices.Clone(list)}
	}
	var all [][]int
	for i := fixed; i < len(list); i++ {
		swapped := slices.Clone(list)
		swapped[fixed], swapped[i] = swapped[i], swapped[fixed]
		all = append(all, orders(swapped, fixed+1)...)
	}
	return all
}

// systems hands out every system of a graph, as lists whose first fixed ones are the least: with 0 every list of
// neighbours, with 1 every order around a vertex once.
func systems(g api.Graph, fixed int, with func(r [][]int)) {
	choices := make([][][]int, g.N)
	for v, list := range rising(g) {
		choices[v] = orders(list, fixed)
	}
	r := make([][]int, g.N)
	var choose func(v int)
	choose = func(v int) {
		if v == g.N {
			with(r)
			return
		}
		for _, list := range choices[v] {
			r[v] = list
			choose(v + 1)
		}
	}
	choose(0)
}

// isAsTheWords fails the test unless all answers are the ones of the words.
func isAsTheWords(t *testing.T, g api.Graph, r [][]int) {
	t.Helper()
	if k := rotation.Right(g, r); k != api.OK {
		t.Fatalf("Right of %v, %v: kind %d", g, r, int(k))
	}
	faces, k := rotation.Faces(g, r)
	if want := facesOf(g, r); k != api.OK || !slices.EqualFunc(faces, want, slices.Equal) {
		t.Fatalf("Faces of %v, %v: %v, kind %d, not %v", g, r, faces, int(k), want)
	}
	numbers, k := rotation.Euler(g, r)
	want := numbersOf(g, r)
	if k != api.OK || !slices.Equal(numbers, want) {
		t.Fatalf("Euler of %v, %v: %v, kind %d, not %v", g, r, numbers, int(k), want)
	}
	plane := api.OK
	if slices.ContainsFunc(want, func(number int) bool { return number != 2 }) {
		plane = api.BadRotation
	}
	if k := rotation.Plane(g, r); k != plane {
		t.Fatalf("Plane of %v, %v: kind %d, not %d", g, r, int(k), int(plane))
	}
	canon, k := rotation.Canon(g, r)
	if want := canonOf(r); k != api.OK || !slices.EqualFunc(canon, want, slices.Equal) {
		t.Fatalf("Canon of %v, %v: %v, kind %d, not %v", g, r, canon, int(k), want)
	}
	if got, want := rotation.Mirror(r), mirrorOf(r); !slices.EqualFunc(got, want, slices.Equal) {
		t.Fatalf("Mirror of %v: %v, not %v", r, got, want)
	}
}

// P701, P702, P703: against the words, on all lists of all graphs of at most 4 vertices.
func TestAllSmall(t *testing.T) {
	for n := range 5 {
		smalls(n, func(g api.Graph) {
			systems(g, 0, func(r [][]int) { isAsTheWords(t, g, r) })
		})
	}
}

// P701, P702, P703: against the words, on all systems of all graphs of 5 vertices, lists begun anywhere.
func TestAllOfFive(t *testing.T) {
	d := dice(705)
	smalls(5, func(g api.Graph) {
		systems(g, 1, func(r [][]int) { isAsTheWords(t, g, d.turned(r)) })
	})
}

// P701, P702, P703: against the words, on greater ones.
func TestGreater(t *testing.T) {
	for _, s := range samples() {
		if s.g.N < 20 {
			isAsTheWords(t, s.g, s.r)
		}
	}
}

// P701: on all graphs of 3 vertices all lists of at most 2 numbers from -1 to 3 are right just if the words say so.
func TestRightOfAll(t *testing.T) {
	var lists [][]int
	lists = append(lists, nil)
	for a := -1; a <= 3; a++ {
		lists = append(lists, []int{a})
		for b := -1; b <= 3; b++ {
			lists = append(lists, []int{a, b})
		}
	}
	smalls(3, func(g api.Graph) {
		for _, a := range lists {
			for _, b := range lists {
				for _, c := range lists {
					r := [][]int{a, b, c}
					if k := rotation.Right(g, r); (k == api.OK) != isSystem(g, r) || k != api.OK && k != api.BadRotation {
						t.Fatalf("Right of %v, %v: kind %d", g, r, int(k))
					}
				}
			}
		}
	})
}
