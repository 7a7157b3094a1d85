package cut_test

import (
	"fmt"
	"math"
	"slices"
	"testing"

	"filigree/api"
	"filigree/cut"
	"filigree/faces"
	"filigree/rotation"
	"filigree/tjoin"
)

// isRefused fails the test unless Max answers this kind and nothing else. What is asked may be too great to be shown.
func isRefused(t *testing.T, what string, g api.Graph, r [][]int, want api.Kind) {
	t.Helper()
	if side, w, k := cut.Max(g, r); len(side) != 0 || w != 0 || k != want {
		t.Errorf("%s: Max: %d sides of %d, kind %d, not %d", what, len(side), w, int(k), int(want))
	}
}

// bagel is a system that is not in the plane: a grid whose last row and column are joined to the first ones.
func bagel(rows, columns int) [][]int {
	r := make([][]int, rows*columns)
	for v := range r {
		x, y := v%columns, v/columns
		at := func(x, y int) int { return (y+rows)%rows*columns + (x+columns)%columns }
		r[v] = []int{at(x-1, y), at(x, y-1), at(x+1, y), at(x, y+1)}
	}
	return r
}

// apart is so many triangles beside each other, each with two odd faces.
func apart(count int) [][]int {
	list := make([][][]int, count)
	for i := range list {
		list[i] = ring(3)
	}
	return beside(list...)
}

// light is a graph with a weight below 0.
func light(g api.Graph) api.Graph {
	return weighed(g, func(place int) int64 {
		if place == len(g.E)/2 {
			return -1
		}
		return 5
	})
}

// P1502: graphs that are not right, also where the lists are wrong as well.
func TestMaxOfWrongGraphs(t *testing.T) {
	for _, list := range []map[string]api.Graph{wrongs(), lightened(wrongs())} {
		for what, g := range list {
			for _, r := range [][][]int{nil, {}, {{1}, {0}, nil}, {{1}, {0}}, {{0}}, {{7, 7}, nil, {-1}}, {{1, 2}, {0, 2}, {0, 1}}} {
				isRefused(t, what, g, r, api.BadArg)
			}
		}
	}
}

// P1502: a weight below 0 at any edge.
func TestMaxOfNegativeWeights(t *testing.T) {
	for _, s := range samples(9) {
		for place := 0; place < len(s.g.E); place += 1 + len(s.g.E)/5 {
			for _, weight := range []int64{-1, 1 - api.MaxW} {
				g := weighed(s.g, func(int) int64 { return 3 })
				g.E[place].W = weight
				isRefused(t, s.what, g, s.r, api.NegativeWeight)
			}
		}
	}
}

// P1502: lists that are no system of the graph.
func TestMaxOfWrongLists(t *testing.T) {
	triangle := of(ring(3))
	row := edges(4, [3]int64{1, 3, 1})
	for _, c := range []struct {
		what string
		g    api.Graph
		r    [][]int
	}{
		{"no list", triangle, nil},
		{"no list, an empty one", triangle, [][]int{}},
		{"too few", triangle, [][]int{{1, 2}, {0, 2}}},
		{"too many", triangle, [][]int{{1, 2}, {0, 2}, {0, 1}, {}}},
		{"a list of no vertex", api.Graph{}, [][]int{{}}},
		{"vertices without lists", api.Graph{N: 2}, [][]int{{}}},
		{"a neighbour where there is no edge", api.Graph{N: 2}, [][]int{{1}, {0}}},
		{"a list that lacks", triangle, [][]int{{1, 2}, nil, {0, 1}}},
		{"a neighbour that lacks", triangle, [][]int{{1, 2}, {0, 2}, {0}}},
		{"a neighbour that lacks on both sides", triangle, [][]int{{1}, {0, 2}, {1}}},
		{"one twice, another lacks", triangle, [][]int{{1, 1}, {0, 2}, {0, 1}}},
		{"one twice beside all", triangle, [][]int{{1, 2, 1}, {0, 2}, {0, 1}}},
		{"its own number", triangle, [][]int{{1, 0}, {0, 2}, {0, 1}}},
		{"one that is no neighbour", row, [][]int{nil, {2}, nil, {1}}},
		{"a number below 0", triangle, [][]int{{1, -1}, {0, 2}, {0, 1}}},
		{"a number one beyond", triangle, [][]int{{1, 3}, {0, 2}, {0, 1}}},
		{"the least number", triangle, [][]int{{1, 2}, {0, math.MinInt}, {0, 1}}},
		{"the greatest number", triangle, [][]int{{1, 2}, {0, 2}, {0, math.MaxInt}}},
		{"of another graph", row, [][]int{{1}, {0}, nil, nil}},
	} {
		isRefused(t, c.what, c.g, c.r, api.BadRotation)
	}
}

// P1502: right systems that are not in the plane, also of graphs that are planar.
func TestMaxNotInPlane(t *testing.T) {
	d := dice(1530)
	twisted := wheel(6)
	slices.Reverse(twisted[3])
	for what, r := range map[string][][]int{
		"K5":                        rising(all(5, 1)),
		"K3,3":                      between(3, 3),
		"K4, rising":                rising(all(4, 1)),
		"bagel":                     bagel(3, 4),
		"wheel, a list from behind": twisted,
		"the first of two is not":   beside(bagel(3, 3), ring(4)),
		"the last of two is not":    beside(ring(4), bagel(3, 3)),
		"one of many is not":        beside(alone(2), ring(4), bagel(3, 3), d.tree(9), alone(2)),
		"a cut vertex and one not":  glued(ring(5), bagel(3, 3)),
		"a bridge and one is not":   bridged(bagel(4, 4), ring(3)),
	} {
		if k := rotation.Right(of(r), r); k != api.OK {
			t.Errorf("%s: Right: kind %d", what, int(k))
		}
		isRefused(t, what, of(r), r, api.BadRotation)
		isRefused(t, what+", weights of 0", weighed(of(r), func(int) int64 { return 0 }), r, api.BadRotation)
	}
}

// P1502: where two numbers of a list change places the system may be in the plane still, or not.
func TestMaxOfSpoiltSystems(t *testing.T) {
	d := dice(1531)
	counts := map[api.Kind]int{}
	for _, s := range samples(11) {
		_, want, _ := cut.Max(s.g, s.r)
		for v, list := range s.r {
			if len(list) < 3 {
				continue
			}
			spoilt := slices.Clone(s.r)
			spoilt[v] = slices.Clone(list)
			i, j := d.below(len(list)), d.below(len(list))
			spoilt[v][i], spoilt[v][j] = list[j], list[i]
			k := rotation.Plane(s.g, spoilt)
			counts[k]++
			if k == api.OK {
				isMax(t, s.what, s.g, spoilt, want)
			} else {
				isRefused(t, s.what, s.g, spoilt, k)
			}
		}
	}
	if counts[api.OK] == 0 || counts[api.BadRotation] == 0 {
		t.Errorf("systems in the plane and such as are not are asked for: %v", counts)
	}
}

// P1502: of what is wrong in two ways the kind that the chapter names first.
func TestOrderOfKinds(t *testing.T) {
	many := apart(api.MaxMatch/2 + 1)
	large := of(many)
	isRefused(t, "too large alone", large, many, api.TooLarge)
	turned := api.Graph{N: large.N, E: slices.Clone(large.E)}
	turned.E[0].U, turned.E[0].V = turned.E[0].V, turned.E[0].U
	wrong := beside(many, bagel(3, 3))
	missing := slices.Clone(many)
	missing[7] = nil
	twisted := beside(many, rising(all(4, 1)))
	for _, c := range []struct {
		what string
		g    api.Graph
		r    [][]int
		want api.Kind
	}{
		{"not right, below 0", light(turned), many, api.BadArg},
		{"not right, no system", turned, missing, api.BadArg},
		{"not right, not in the plane", turned, wrong, api.BadArg},
		{"not right, too large", turned, many, api.BadArg},
		{"not right, below 0, no system, too large", light(turned), nil, api.BadArg},
		{"below 0, no system", light(of(ring(3))), nil, api.NegativeWeight},
		{"below 0, not in the plane", light(of(bagel(3, 3))), bagel(3, 3), api.NegativeWeight},
		{"below 0, too large", light(large), many, api.NegativeWeight},
		{"below 0, no system, too large", light(large), missing, api.NegativeWeight},
		{"no system, too large", large, missing, api.BadRotation},
		{"no system of lists at all, too large", large, nil, api.BadRotation},
		{"not in the plane, too large", of(wrong), wrong, api.BadRotation},
		{"not in the plane, though planar, too large", of(twisted), twisted, api.BadRotation},
	} {
		isRefused(t, c.what, c.g, c.r, c.want)
	}
	// A weight that is none at all is what keeps a graph from being right, though it is below 0.
	isRefused(t, "weight far below", edges(2, [3]int64{0, 1, -api.MaxW}), way(2), api.BadArg)
	isUnbound(t, "weight far below", edges(2, [3]int64{0, 1, -api.MaxW}), api.BadArg)
}

// P1502: TooLarge is what tjoin.Join says of the dual and its faces of odd length, and nothing else is.
func TestAsJoinSays(t *testing.T) {
	d := dice(1532)
	counts := map[api.Kind]int{}
	list := samples(13)
	for _, count := range []int{255, 256, 257, 300} {
		list = append(list, sample{fmt.Sprint(count, " triangles"), of(apart(count)), apart(count)})
	}
	for rings := 1; rings < 16; rings++ {
		r := nest(rings, 3)
		list = append(list, sample{"nest", weighed(of(r), func(int) int64 { return int64(d.below(api.MaxW)) }), r})
	}
	for _, s := range list {
		dual, _ := faces.Dual(s.g, s.r)
		lengths, _ := faces.Lengths(s.g, s.r)
		var odd []int
		for face, length := range lengths {
			if length%2 == 1 {
				odd = append(odd, face)
			}
		}
		_, cost, want := tjoin.Join(dual, odd)
		counts[want]++
		if want != api.OK {
			isRefused(t, s.what, s.g, s.r, want)
		} else {
			isMax(t, s.what, s.g, s.r, totalOf(s.g)-cost)
		}
	}
	if counts[api.OK] == 0 || counts[api.TooLarge] != 2 || len(counts) != 2 {
		t.Errorf("what Join says: %v", counts)
	}
}
