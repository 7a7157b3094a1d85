package colour_test

import (
	"fmt"
	"slices"
	"testing"

	"filigree/api"
	"filigree/planar"
	"filigree/rotation"
)

// smalls hands out every graph of n vertices.
func smalls(n int, with func(g api.Graph)) {
	pairs := among(n)
	for set := range 1 << (len(pairs) / 2) {
		var ends []int
		for i := 0; i < len(pairs); i += 2 {
			if set>>(i/2)&1 == 1 {
				ends = append(ends, pairs[i], pairs[i+1])
			}
		}
		with(sorted(n, ends...))
	}
}

// lists hands out every list of n numbers from low to high.
func lists(n, low, high int, with func(list []int)) {
	list := make([]int, n)
	var choose func(at int)
	choose = func(at int) {
		if at == n {
			with(slices.Clone(list))
			return
		}
		for number := low; number <= high; number++ {
			list[at] = number
			choose(at + 1)
		}
	}
	choose(0)
}

// orders is every order of a list in which the first fixed ones stay.
func orders(list []int, fixed int) [][]int {
	if fixed >= len(list) {
		return [][]int{slices.Clone(list)}
	}
	var all [][]int
	for i := fixed; i < len(list); i++ {
		swapped := slices.Clone(list)
		swapped[fixed], swapped[i] = swapped[i], swapped[fixed]
		all = append(all, orders(swapped, fixed+1)...)
	}
	return all
}

// systems hands out every system of a graph, in the plane or not, as every list of neighbours.
func systems(g api.Graph, with func(r [][]int)) {
	near := rising(g)
	r := make([][]int, g.N)
	var choose func(v int)
	choose = func(v int) {
		if v == g.N {
			with(r)
			return
		}
		for _, list := range orders(near[v], 0) {
			r[v] = list
			choose(v + 1)
		}
	}
	choose(0)
}

// P1101: all lists of colours from -1 to 3, of up to one more than N, on all graphs of at most 4 vertices, with each most.
func TestCheckOfAll(t *testing.T) {
	for n := range 5 {
		smalls(n, func(g api.Graph) {
			for length := range n + 2 {
				lists(length, -1, 3, func(c []int) {
					for most := -1; most <= 4; most++ {
						isChecked(t, "small", g, c, most)
					}
				})
			}
		})
	}
}

// P1103, P1105: all orders of all graphs of at most 5 vertices; of lists that are no order none is answered.
func TestGreedyOfAll(t *testing.T) {
	for n := range 6 {
		all := orders(upTo(n), 0)
		smalls(n, func(g api.Graph) {
			for _, order := range all {
				isGreedy(t, "small", g, order)
			}
		})
		g := sorted(n, among(n)...)
		for length := range n + 2 {
			lists(length, -1, n, func(list []int) {
				rises := slices.Clone(list)
				slices.Sort(rises)
				if !slices.Equal(rises, upTo(n)) {
					isNoOrder(t, fmt.Sprint(list), g, list)
				}
			})
		}
	}
}

// P1102: all lists of all graphs of at most 4 vertices are coloured, or refused.
func TestFiveOfAll(t *testing.T) {
	counts := map[api.Kind]int{}
	for n := range 5 {
		smalls(n, func(g api.Graph) {
			systems(g, func(r [][]int) {
				k := rotation.Plane(g, r)
				counts[k]++
				if k == api.OK {
					isFive(t, "small", g, r)
				} else {
					isRefused(t, fmt.Sprint(g, r), g, r, k)
				}
			})
		})
	}
	if counts[api.OK] == 0 || counts[api.BadRotation] == 0 {
		t.Errorf("systems in the plane and such as are not are asked for: %v", counts)
	}
}

// P1102: all planar graphs of 5 and of 6 vertices, in the system that planar tells.
func TestFiveOfAllPlanar(t *testing.T) {
	for n := 5; n <= 6; n++ {
		smalls(n, func(g api.Graph) {
			if a, _ := planar.Decide(g); a.Planar {
				isFive(t, "planar", g, a.R)
			}
		})
	}
}
