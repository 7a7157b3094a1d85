package faces_test

import (
	"fmt"
	"slices"
	"testing"

	"filigree/api"
	"filigree/planar"
	"filigree/rotation"
)

// smalls hands out every graph of n vertices.
func smalls(n int, with func(g api.Graph)) {
	pairs := among(n)
	for set := range 1 << (len(pairs) / 2) {
		var ends []int
		for i := 0; i < len(pairs); i += 2 {
			if set>>(i/2)&1 == 1 {
				ends = append(ends, pairs[i], pairs[i+1])
			}
		}
		with(sorted(n, ends...))
	}
}

// orders is every order of a list in which the first fixed ones stay.
func orders(list []int, fixed int) [][]int {
	if fixed >= len(list) {
		return [][]int{slices.Clone(list)}
	}
	var all [][]int
	for i := fixed; i < len(list); i++ {
		swapped := slices.Clone(list)
		swapped[fixed], swapped[i] = swapped[i], swapped[fixed]
		all = append(all, orders(swapped, fixed+1)...)
	}
	return all
}

// systems hands out every system of a graph, in the plane or not, as every list of neighbours.
func systems(g api.Graph, with func(r [][]int)) {
	choices := make([][][]int, g.N)
	for v, list := range rising(g) {
		choices[v] = orders(list, 0)
	}
	r := make([][]int, g.N)
	var choose func(v int)
	choose = func(v int) {
		if v == g.N {
			with(r)
			return
		}
		for _, list := range choices[v] {
			r[v] = list
			choose(v + 1)
		}
	}
	choose(0)
}

// P1001 to P1004: all lists of all graphs of at most 4 vertices are answered as the words say, or refused.
func TestAllSmall(t *testing.T) {
	counts := map[api.Kind]int{}
	for n := range 5 {
		smalls(n, func(g api.Graph) {
			systems(g, func(r [][]int) {
				k := rotation.Plane(g, r)
				counts[k]++
				if k == api.OK {
					isAsTheWords(t, "small", g, r)
					isLawful(t, fmt.Sprint(g, r), g, r)
				} else {
					isRefused(t, fmt.Sprint(g, r), g, r, k)
				}
			})
		})
	}
	// K4 has 16 systems, each by 81 lists, and 2 of them are in the plane. The 6 graphs of 5 edges have 4 systems each, by 144
	// lists in all, and 2 of them are. Every other graph is in the plane in any of its systems.
	if refused := 14*81 + 6*144/2; counts[api.BadRotation] != refused || counts[api.OK] == 0 {
		t.Errorf("%v, not %d refused", counts, refused)
	}
}

// P1001 to P1004: of all planar graphs of 5 vertices, and of some of 6, the system that planar tells, and its mirror.
func TestAllPlanar(t *testing.T) {
	d := dice(1005)
	for n := 5; n <= 6; n++ {
		smalls(n, func(g api.Graph) {
			a, _ := planar.Decide(g)
			if !a.Planar || n == 6 && d.below(4) > 0 {
				return
			}
			for _, r := range [][][]int{a.R, rotation.Mirror(a.R), d.turned(a.R)} {
				isAsTheWords(t, "planar", g, r)
				isLawful(t, fmt.Sprint(g, r), g, r)
			}
		})
	}
}
